/- The document's words, fields and lines. -/
import Derived.Test.YtalaajniammggaaGreatDoorXAd
import Derived.Laws.Rows
import Derived.Laws.IdiomCopy
import Derived.Deep.MidRow
import Derived.Deep.CutRange
import Derived.Deep.CutBlock
namespace Go.Proofs.YtalaajniammggaaGreatDoor
open Go.RowKit
def setAll (cs : Array Value) (o : Nat) : List Value → Array Value
 | [] => cs
 | v :: vs => setAll (cs.setIfInBounds o v) (o + 1) vs
theorem setCells_row (g : Nat) (t : TypeId) : ∀ (vs : List Value) (o : Nat) (w : World) (cs : Array Value),w.heap[g]? = some (.cells cs t (0,0)) →
  (w.setCells g o vs).heap[g]? = some (.cells (setAll cs o vs) t (0,0))
 | [],_,_,_,h => h
 | v :: vs,o,w,cs,h => setCells_row g t vs (o + 1) (w.setCell ⟨g,o,none⟩ v) _ (heap_setCell_same w g o cs t v h)
theorem setCells_below (B g : Nat) (hg : B ≤ g) (a : World) : ∀ (vs : List Value) (o : Nat) (w : World),Below B a w → Below B a (w.setCells g o vs)
 | [],_,_,h => h
 | v :: vs,o,w,h => setCells_below B g hg a vs (o + 1) (w.setCell ⟨g,o,none⟩ v) (h.setCell hg v)
theorem there_row {w : World} {g : Nat} {cs : Array Value} {t : TypeId} (h : w.heap[g]? = some (.cells cs t (0,0))) : w.there g 0 cs.size := by
 intro j hj
 rw [Nat.zero_add]
 exact ⟨by rw [cell_of_row w g j cs t (0,0) h]; simp [hj],frozen_of_row w g j cs t h⟩
def nil34 : Array Value := Array.replicate 34 (.string ⟨#[]⟩)
theorem one_words : ∀ v ∈ wordsA.toList,v.oneCell' = true := by
 intro v hv
 simp only [wordsA,List.mem_map] at hv
 obtain ⟨l,_,rfl⟩ := hv
 rfl
theorem store34 (w : World) : ∃ W : World,(storeCells ⟨w.heap.size,0,none⟩ wordsA.toList).run Tryz.prog (w.alloc (.cells nil34 51)) = .ok () W ∧
  W.heap[w.heap.size]? = some (.cells wordsA 51 (0,0)) ∧ Below w.heap.size w W := by
 have ht := there_row (heap_alloc_new w (.cells nil34 51))
 have hl : wordsA.toList.length = nil34.size := rfl
 have := run_storeCells_cells (P := Tryz.prog) w.heap.size 0 wordsA.toList 0 (w.alloc (.cells nil34 51)) (fun j hj => by simpa using (ht j (by rw [← hl]; exact hj)).1) (fun j hj => by have := (ht j (by rw [← hl]; exact hj)).2; simp only [Nat.zero_add] at this ⊢; exact this)
  one_words
 have h1 := setCells_row w.heap.size 51 wordsA.toList 0 (w.alloc (.cells nil34 51)) nil34 (heap_alloc_new w _)
 rw [show setAll nil34 0 wordsA.toList = wordsA from by kernel_rfl] at h1
 exact ⟨_,this,h1,setCells_below _ _ (Nat.le_refl _) w _ _ _ ((Below.refl _ _).alloc (Nat.le_refl _) _)⟩
theorem zero34 (W : World) : (zeroValue 51).run Tryz.prog W = .ok (.agg nil34) W := by kernel_rfl
set_option maxRecDepth 100000 in
theorem set34 : ((((((((((((((((((((((((((((((((((nil34.setIfInBounds 0 (.string ⟨#[101,120,105,116]⟩)).setIfInBounds 1 (.string ⟨#[115,101,116]⟩)).setIfInBounds 2 (.string ⟨#[109,111,118,101]⟩)).setIfInBounds 3 (.string ⟨#[97,100,100]⟩)).setIfInBounds 4 (.string ⟨#[115,117,98]⟩)).setIfInBounds 5 (.string ⟨#[109,117,108]⟩)).setIfInBounds 6 (.string ⟨#[100,105,118]⟩)).setIfInBounds 7 (.string ⟨#[114,101,109]⟩)).setIfInBounds 8 (.string ⟨#[97,110,100]⟩)).setIfInBounds 9 (.string ⟨#[111,114]⟩)).setIfInBounds 10 (.string ⟨#[120,111,114]⟩)).setIfInBounds 11 (.string ⟨#[115,104,108]⟩)).setIfInBounds 12 (.string ⟨#[115,104,114]⟩)).setIfInBounds 13 (.string ⟨#[108,101,115,115]⟩)).setIfInBounds 14 (.string ⟨#[101,113,117,97,108]⟩)).setIfInBounds 15 (.string ⟨#[102,97,100,100]⟩)).setIfInBounds 16 (.string ⟨#[102,115,117,98]⟩)).setIfInBounds 17 (.string ⟨#[102,109,117,108]⟩)).setIfInBounds 18 (.string ⟨#[102,100,105,118]⟩)).setIfInBounds 19 (.string ⟨#[102,108,101,115,115]⟩)).setIfInBounds 20 (.string ⟨#[116,111,102,108,111,97,116]⟩)).setIfInBounds 21 (.string ⟨#[116,111,105,110,116]⟩)).setIfInBounds 22 (.string ⟨#[106,117,109,112]⟩)).setIfInBounds 23 (.string ⟨#[105,102]⟩)).setIfInBounds 24 (.string ⟨#[115,101,110,100]⟩)).setIfInBounds 25 (.string ⟨#[114,101,99,118]⟩)).setIfInBounds 26 (.string ⟨#[116,114,121]⟩)).setIfInBounds 27 (.string ⟨#[116,105,109,101,114]⟩)).setIfInBounds 28 (.string ⟨#[115,108,101,101,112]⟩)).setIfInBounds 29 (.string ⟨#[108,111,99,107]⟩)).setIfInBounds 30 (.string ⟨#[117,110,108,111,99,107]⟩)).setIfInBounds 31 (.string ⟨#[111,117,116]⟩)).setIfInBounds 32 (.string ⟨#[110,111,119]⟩)).setIfInBounds 33 (.string ⟨#[115,101,108,102]⟩)) = wordsA := by kernel_rfl
set_option maxRecDepth 100000 in
set_option maxHeartbeats 1000000 in
theorem rword_any (o : Nat) (ho : o < 34) (w : World) :
  Calls Tryz.prog 34 #[.int .i64 o] w fun e w' => e = .returned (.string ⟨(wordL (o : Int)).toArray⟩) ∧ Below w.heap.size w w' := by
 obtain ⟨W,hst,hrow,hbw⟩ := store34 w
 have hz := zero34
 have hb0 := set34
 have hb1 : wordsA.size = 34 := rfl
 have hb2 : nil34.size = 34 := rfl
 have hlo : (o : Int) < 34 := by omega
 have hc : W.cell? ⟨w.heap.size,o,none⟩ = some (.string ⟨(wordL (o : Int)).toArray⟩) := by
  rw [Lib.cell_of_heap hrow,wordsA_at o ho]
  rfl
 obtain ⟨S,hS⟩ : ∃ S : ByteArray,Hid (S = ⟨(wordL (o : Int)).toArray⟩) := ⟨_,rfl⟩
 rw [← hS.out] at hc ⊢
 clear hrow hS
 go_enter Tryz.func34,Tryz.ntmps34
 go_wp2_with fail
 go_ret
 exact ⟨rfl,hbw⟩
end Go.Proofs.YtalaajniammggaaGreatDoor

/- The document's number, line and text. -/
namespace Go.Proofs.YtalaajniammggaaGreatDoor
open Go.RowKit
structure DEnv (V : Env) : Prop where
 pr : ∀ (v : Int) (w : World),Calls Tryz.prog 55 #[.int .i64 v] w fun e w' => e = .returned (.string ⟨(V.fp v).toArray⟩) ∧ Below w.heap.size w w'
 pa : ∀ (s : ByteArray) (w : World),Calls Tryz.prog 60 #[.string s] w fun e w' => ∃ y k : Int,((k ≠ 0 ∧ ∀ v,InR v → V.fp v ≠ s.data.toList) ∨ (InR y ∧ k = 0 ∧ V.fp y = s.data.toList)) ∧ e = .returned (.tuple #[.int .i64 y,.int .i64 k]) ∧ Below w.heap.size w w'
end Go.Proofs.YtalaajniammggaaGreatDoor
