/- The library's own form of a float's digits and exponent. -/
import Derived.Test.YtalaajniammggaaGreatDoorXWb
import Derived.Deep.RegionWith
namespace Go.Proofs.YtalaajniammggaaGreatDoor
open Go.RowKit
theorem news_new (w : World) (m : List UInt8) (vs : List Value) (h : vs = Lib.byteCells m) : ∀ j u,(Lib.byteCells m)[j]? = some u → (w.alloc (.cells vs.toArray 5)).cell? ((⟨w.heap.size,0,none⟩ : Addr).add j) = some u := by
 intro j u hu
 subst h
 have hj : j < (Lib.byteCells m).length := (List.getElem?_eq_some_iff.1 hu).1
 rw [Addr.add_lit,Nat.zero_add]
 rw [cell_of_row _ _ j (Lib.byteCells m).toArray 5 (0,0) (heap_alloc_new w _)]
 simpa using hu
def expD (M : Nat) : List UInt8 := if M < 10 then [48,UInt8.ofNat (48 + M)] else if M < 100 then [UInt8.ofNat (48 + M / 10),UInt8.ofNat (48 + M % 10)] else [UInt8.ofNat (48 + M / 100),UInt8.ofNat (48 + M / 10 % 10),UInt8.ofNat (48 + M % 10)]
def moreD (g : Nat → UInt8) (nd : Nat) : List UInt8 := (List.range (nd - 1)).map fun t => g (t + 1)
def fmtL (neg : Bool) (g : Nat → UInt8) (nd : Nat) (minus : Bool) (M : Nat) : List UInt8 :=
 (if neg then [45] else []) ++ [g 0] ++ (if 1 < nd then 46 :: moreD g nd else []) ++ [101] ++ [if minus then 45 else 43] ++ expD M
theorem more_cells (b : Nat) (w : World) (g : Nat → UInt8) (nd : Nat) (h : ∀ t,t < nd → w.cell? ⟨b,t,none⟩ = some (.int .u8 ((g t).toNat : Int))) :
  ∀ j u,(Lib.byteCells (moreD g nd))[j]? = some u → w.cell? ((⟨b,1,none⟩ : Addr).add j) = some u := by
 intro j u hu
 have hj : j < (Lib.byteCells (moreD g nd)).length := (List.getElem?_eq_some_iff.1 hu).1
 have hj' : j < nd - 1 := by simpa [Lib.byteCells,moreD] using hj
 rw [Addr.add_lit,Nat.add_comm 1 j,h (j + 1) (by omega)]
 simp [Lib.byteCells,moreD,hj'] at hu
 rw [← hu]
theorem cell_grown {w w' : World} {q b t : Nat} {v : Value} (hg : w.grownBy w' (some q)) (hq : b ≠ q) (h : w.cell? ⟨b,t,none⟩ = some v) : w'.cell? ⟨b,t,none⟩ = some v := by
 have hb : b < w.heap.size := World.block_lt_of_cell? w _ h
 rw [← h]
 exact World.cell?_of_block (w := w) (hg.block b hb (fun e => hq (Option.some.inj e)))
theorem cell_alloc {w : World} {o : Obj} {b t : Nat} {v : Value} (h : w.cell? ⟨b,t,none⟩ = some v) : (w.alloc o).cell? ⟨b,t,none⟩ = some v :=
 (((Below.refl _ w).alloc (Nat.le_refl _) o).cell (World.block_lt_of_cell? w _ h)).trans h
set_option maxRecDepth 100000 in
set_option maxHeartbeats 2000000 in
theorem fmtE_0101 (B q b : Nat) (w : World) (g : Nat → UInt8) (k : Nat) (hk : k ≤ 15) (M : Nat) (hM : M < 10) (hB : Buf B w q 0 []) (_hq : b ≠ q)
  (hc : ∀ t,t < (k + 2) → w.cell? ⟨b,t,none⟩ = some (.int .u8 ((g t).toNat : Int))) :
  Calls Tryz.prog 143 #[.slice (some ⟨q,0,none⟩) 0 24,.bool false,.slice (some ⟨b,0,none⟩) 32 32,.int .i64 ((M : Int) + 1),.int .i64 ((k : Int) + 2),.int .i64 ((k : Int) + 1),.int .u8 101,.bool true] w fun e w' =>
   ∃ N,e = .returned (.slice (some ⟨q,0,none⟩) N 24) ∧ Buf B w' q N (fmtL false g (k + 2) false M) ∧ Below B w w' := by
 have hk1 : ¬ ((k : Int) + 2 = 0) := by omega
 have hmin : min ((k : Int) + 2) ((k : Int) + 1 + 1) = (k : Int) + 2 := by omega
 have hzero : (k : Int) + 1 + 1 - ((k : Int) + 2) = 0 := by omega
 obtain ⟨hBq,hqw⟩ := hB.base
 have hb0 := Below.refl B w
 go_enter Tryz.func143,Tryz.ntmps143
 go_wp2_with (first
  | (at_builtin; refine wp_app _ rfl _ _ rfl B q _ _ [g 0] 1 _ rfl (Buf.alloc hB _) ⟨_,0,none⟩ rfl rfl (news_new _ _ _ (by first | rfl | (simp [Lib.byteCells]))) (by omega) ?_; intro w1 N1 hN1 hB1 hg1; have hb1 : Below B w w1 := (hb0.alloc (by have := hb0.size; omega) _).grown hg1 (by simp; have := hb0.size; omega) (fun j hj => by cases hj; omega); have hc1 : ∀ t,t < (k + 2) → w1.cell? ⟨b,t,none⟩ = some (.int .u8 ((g t).toNat : Int)) := fun t ht => cell_grown hg1 _hq (cell_alloc (hc t ht)))
  | (at_builtin; refine wp_app _ rfl _ _ rfl B q _ _ [46] 1 _ rfl (Buf.alloc hB1 _) ⟨_,0,none⟩ rfl rfl (news_new _ _ _ (by first | rfl | (simp [Lib.byteCells]))) (by have := hN1.out; omega) ?_; intro w2 N2 hN2 hB2 hg2; have hb2 : Below B w w2 := (hb1.alloc (by have := hb1.size; omega) _).grown hg2 (by simp; have := hb1.size; omega) (fun j hj => by cases hj; omega); have hc2 : ∀ t,t < (k + 2) → w2.cell? ⟨b,t,none⟩ = some (.int .u8 ((g t).toNat : Int)) := fun t ht => cell_grown hg2 _hq (cell_alloc (hc1 t ht)))
  | (at_builtin; refine wp_app _ rfl _ _ rfl B q _ _ (moreD g (k + 2)) _ _ rfl hB2 ⟨b,1,none⟩ (by simp [moreD]) rfl (more_cells b _ g (k + 2) hc2) (by have := hN1.out; have := hN2.out; omega) ?_; intro w3 N3 hN3 hB3 hg3; have hb3 : Below B w w3 := hb2.grown hg3 (by have := hb2.size; omega) (fun j hj => by cases hj; omega)))
 refine wp_loop_rounds 1 ?_
 rw [rounds_succ]
 go_wp2_with (first
  | (at_builtin; refine wp_app _ rfl _ _ rfl B q _ _ [101] 1 _ rfl (Buf.alloc hB3 _) ⟨_,0,none⟩ rfl rfl (news_new _ _ _ (by first | rfl | (simp [Lib.byteCells]))) (by have := hN1.out; have := hN2.out; have := hN3.out; omega) ?_; intro w4 N4 hN4 hB4 hg4; have hb4 : Below B w w4 := (hb3.alloc (by have := hb3.size; omega) _).grown hg4 (by simp; have := hb3.size; omega) (fun j hj => by cases hj; omega))
  | (at_builtin; refine wp_app _ rfl _ _ rfl B q _ _ [43] 1 _ rfl (Buf.alloc hB4 _) ⟨_,0,none⟩ rfl rfl (news_new _ _ _ (by first | rfl | (simp [Lib.byteCells]))) (by have := hN1.out; have := hN2.out; have := hN3.out; have := hN4.out; omega) ?_; intro w5 N5 hN5 hB5 hg5; have hb5 : Below B w w5 := (hb4.alloc (by have := hb4.size; omega) _).grown hg5 (by simp; have := hb4.size; omega) (fun j hj => by cases hj; omega))
  | (at_builtin; refine wp_app _ rfl _ _ rfl B q _ _ [48,UInt8.ofNat (48 + M)] 2 _ rfl (Buf.alloc hB5 _) ⟨_,0,none⟩ rfl rfl (news_new _ _ _ (by simp [Lib.byteCells]; omega)) (by have := hN1.out; have := hN2.out; have := hN3.out; have := hN4.out; have := hN5.out; omega) ?_; intro w6 N6 hN6 hB6 hg6; have hb6 : Below B w w6 := (hb5.alloc (by have := hb5.size; omega) _).grown hg6 (by simp; have := hb5.size; omega) (fun j hj => by cases hj; omega)))
 go_ret
 refine ⟨_,rfl,?_,hb6⟩
 have e : expD M = [48,UInt8.ofNat (48 + M)] := by unfold expD; rw [if_pos hM]
 have hf := hB6
 unfold fmtL
 rw [← e] at hf
 generalize expD M = D at hf ⊢
 simpa using hf
end Go.Proofs.YtalaajniammggaaGreatDoor

/- 1.5 printed by the library. -/
namespace Go.Proofs.YtalaajniammggaaGreatDoor
open Go.RowKit
theorem zeros_new (w : World) (o : Obj) (ho : o = .cells (Array.replicate 32 (.int .u8 0)) 160) : ∀ t,t < 32 → (w.alloc o).cell? ⟨w.heap.size,t,none⟩ = some (.int .u8 0) ∧ (w.alloc o).frozen? ⟨w.heap.size,t,none⟩ = false := by
 subst ho
 intro t ht
 constructor
 ·rw [cell_of_row _ _ t (Array.replicate 32 (.int .u8 0)) 160 (0,0) (heap_alloc_new w _)]
  simp [ht]
 ·simp [go_sem]
theorem buf_string {B : Nat} {w : World} {q n : Nat} {l : List UInt8} (h : Buf B w q n l) :
  (convert 43 9 (.slice (some ⟨q,0,none⟩) n 24)).run Tryz.prog w = .ok (.string ⟨l.toArray⟩) w := by
 obtain ⟨hn,hc⟩ := h
 subst hn
 refine run_convert_bytes_back w 43 9 5 _ 24 l Tryz.underlying43 Tryz.underlying5 Tryz.underlying9 ?_
 intro j hj
 refine hc.cells (g := q) rfl j _ ?_
 simp [Lib.byteCells,hj]
theorem make24 (w : World) : (Instr.makeSlice 43 (.int .i64 0) (.int .i64 24)).run Tryz.prog w = .ok (.slice (some ⟨w.heap.size,0,none⟩) 0 24) (w.alloc (.cells (Array.replicate 24 (.int .u8 0)) 5)) := by
 obtain ⟨i0,hi,hz0,hz1,hz2⟩ := info_size
 have h := run_make w 43 5 i0 (.int .u8 0) Tryz.underlying43 hi hz0 .i64 .i64 0 24 (by omega) (by omega) (by rw [hz2]; decide) (by omega)
 have e : madeCells (Value.int .u8 0).cells ((24 : Int).toNat * 1) = Array.replicate 24 (.int .u8 0) := by kernel_rfl
 rw [hz1,e] at h
 exact h
theorem cut_e (s : ByteArray) (i : Nat) (w : World) (hi : Lib.indexByte s.data.toList 101 = (i : Int)) (hs : i + 1 ≤ s.size) (hz : s.size ≤ 1000) :
  Calls Tryz.prog 26 #[.string s,.string ⟨#[101]⟩] w fun e w' => e = .returned (.tuple #[.string (s.extract 0 i),.string (s.extract (i + 1) s.size),.bool true]) ∧ ∃ n,w' = w.drewN n := by
 have h1 := fun W => Tryz.stringslite_Index_one s 101 W
 rw [hi] at h1
 have h2 : ∀ W,Calls Tryz.prog 41 #[.string s,.string ⟨#[101]⟩] W fun e w' => e = .returned (.tuple #[.string (s.extract 0 i),.string (s.extract (i + 1) s.size),.bool true]) ∧ ∃ n,w' = W.drewN n := fun W => by
  have hge : (0 : Int) ≤ (i : Int) := by omega
  have hge1 : (0 : Int) ≤ (i : Int) + 1 := by omega
  have hle : (i : Int) + 1 ≤ (s.size : Int) := by omega
  have hle' : (i : Int) ≤ (s.size : Int) := by omega
  go_enter Tryz.func41,Tryz.ntmps41
  go_wp2_with (go_at_call 57; refine (h1 _).mono ?_; rintro e w' ⟨rfl,rfl⟩)
  go_region
  go_wp2
  go_ret3
  exact ⟨rfl,1,rfl⟩
 go_enter Tryz.func26,Tryz.ntmps26
 go_wp2_with (go_at_call 41; refine (h2 _).mono ?_; rintro e w' ⟨rfl,n,rfl⟩)
 go_ret3
 exact ⟨rfl,_,rfl⟩
end Go.Proofs.YtalaajniammggaaGreatDoor

/- The calls whose answers the document fixes. -/
namespace Go.Proofs.YtalaajniammggaaGreatDoor
open Go.RowKit
end Go.Proofs.YtalaajniammggaaGreatDoor
