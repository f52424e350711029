/- twice: whether somebody waits twice. -/
import Derived.Test.YtknklbojcnhjcaaLW9
import Derived.Maps.OwnSet
namespace Go.Proofs.Ytknklbojcnhjcaa
open Go.RowKit Go.Maps

theorem lawInt : Keyed Try.prog 3 := int_keyed Try.underlying3

/-- A set of numbers: so many. -/
structure SetOf (D : DataW Unit) (ps : List Int) : Prop where
  tidy : Tidy D
  has : ∀ p, Maps.has D (.int .i64 p) = decide (p ∈ ps)
  le : Maps.size D ≤ ps.length
  nod : Maps.size D = ps.length ↔ ps.Nodup

theorem SetOf.nil : SetOf (.map []) [] := ⟨⟨[], rfl, List.Pairwise.nil⟩, fun p => by simp [Maps.has], by simp [Maps.size], by simp [Maps.size]⟩
theorem SetOf.put {D : DataW Unit} {ps : List Int} (h : SetOf D ps) (p : Int) (d : DataW Unit) : SetOf (D.put (.int .i64 p) d) (ps ++ [p]) := by
  have hs := size_put (k := .int .i64 p) h.tidy d
  rw [h.has p] at hs
  refine ⟨h.tidy.put (k := .int .i64 p) trivial d, fun q => ?_, ?_, ?_⟩
  · by_cases e : q = p
    · subst e
      rw [has_put_same (k := .int .i64 q) h.tidy.isMap trivial]
      simp
    · rw [has_put_other (by simpa using e), h.has q]
      simp [e]
  · rw [hs]
    have := h.le
    split <;> simp <;> omega
  · rw [hs, List.nodup_append]
    have := h.le
    by_cases e : p ∈ ps
    · simp only [e, decide_true, if_true, List.length_append, List.length_singleton]
      constructor
      · intro h1; omega
      · rintro ⟨_, _, h3⟩
        exact absurd rfl (h3 p e p (by simp))
    · simp only [e, decide_false, List.length_append, List.length_singleton, Bool.false_eq_true, if_false]
      constructor
      · intro h1
        refine ⟨h.nod.1 (by omega), by simp, fun a ha b hb => ?_⟩
        simp at hb
        subst hb
        exact fun e' => e (e' ▸ ha)
      · rintro ⟨h1, _, _⟩
        have := h.nod.2 h1
        omega

theorem map_below {R : Value → Option (DataW Unit × List MemPlace)} {w w' : World} {k : TypeId} {b n B : Nat} {D : DataW Unit} (h : w.ownsMap Try.prog k R b n D) (hb : Below B w w') (hlt : b < B) : w'.ownsMap Try.prog k R b n D := by
  have e := hb.block b hlt
  unfold World.ownsMap at *
  rw [e]
  exact h
theorem take_snoc {α : Type} (l : List α) (d : α) (i : Nat) (h : i < l.length) : l.take (i + 1) = l.take i ++ [l.getD i d] := by
  rw [List.take_succ_eq_append_getElem h, List.getD_eq_getElem?_getD, List.getElem?_eq_getElem h]
  rfl

set_option maxRecDepth 100000 in
set_option maxHeartbeats 2000000 in
theorem twice_any {a : Option Addr} {cap : Nat} {ws : List (Int × Int)} {w : World} (hR : Rd w a (wC ws)) (hn : ws.length ≤ 8000000000000) (hf : ∀ x ∈ ws, Fit64 x.1) (T : Bool) (hT : T = !decide (ws.map (·.1)).Nodup) :
    Calls Try.prog 67 #[.slice a ws.length cap] w fun e w' => e = .returned (.bool T) ∧ Below w.heap.size w w' := by
  have HR := hd hR
  have HF := hd hf
  have HT := hd hT
  have hmk : (w.alloc (.map #[] 0)).ownsMap Try.prog 3 unitElem w.heap.size 0 (.map [] : DataW Unit) := World.ownsMap_made w Try.prog 3 unitElem
  have HM : Hid (∃ D : DataW Unit, (w.alloc (.map #[] 0)).ownsMap Try.prog 3 unitElem w.heap.size 0 D ∧ SetOf D ((ws.map (·.1)).take 0)) := hd ⟨_, hmk, by simpa using SetOf.nil⟩
  have HB0 : Hid (Below w.heap.size w (w.alloc (.map #[] 0))) := hd (below_al w _)
  clear hR hf hT hmk
  have hmm : (Instr.makeMap 100 none).run Try.prog w = .ok (.map (some w.heap.size)) (w.alloc (.map #[] 0)) := rfl
  go_enter Try.func67, Try.ntmps67
  go_wp2_with fail
  go_loopg [5, 9] ws.length (fun k v5 v9 wr => ∃ i : Nat, v9 = .int .i64 i ∧ i + k = ws.length ∧ Hid (Below w.heap.size w wr ∧ ∃ D : DataW Unit, wr.ownsMap Try.prog 3 unitElem w.heap.size i D ∧ SetOf D ((ws.map (·.1)).take i)))
  case atStart => exact ⟨0, rfl, by omega, hd ⟨HB0.out, HM.out⟩⟩
  case round =>
    obtain ⟨i, rfl, hik, HH⟩ := hrel
    clear HM HB0
    obtain ⟨D, hown, HS⟩ := HH.out.2
    have HS := hd HS
    have hb := HH.out.1
    by_cases hlt : i < ws.length
    · have hlt' : (i : Int) < (ws.length : Int) := by omega
      obtain ⟨b, o, rfl, c0, c1⟩ := rd_w (HR.out.below hb) i hlt
      have hfit := HF.out (ws.getD i (0, 0)) (by rw [List.getD_eq_getElem?_getD, List.getElem?_eq_getElem hlt]; exact List.getElem_mem hlt)
      have hts : Hid ((ws.map (·.1)).take (i + 1) = (ws.map (·.1)).take i ++ [(ws.getD i (0, 0)).1]) := hd (by
        rw [take_snoc (ws.map (·.1)) 0 i (by simpa using hlt)]
        congr 2
        simp [List.getD_eq_getElem?_getD, List.getElem?_eq_getElem hlt])
      obtain ⟨⟨p, v⟩, hq⟩ : ∃ t, Hid (ws.getD i (0, 0) = t) := ⟨_, rfl⟩
      rw [hq.out] at c0 c1 hfit hts
      simp only at c0 c1 hfit hts
      have hkey : keyOf Try.prog 3 (.int .i64 p) = some (.int .i64 p) := keyOf_int_mk Try.underlying3 (WalkArith.wf_i64 hfit)
      have hown2 := hown.alloc (.cells #[.int .i64 p, .int .i64 v] 52)
      have hb2 := hd (hb.alloc hb.size (.cells #[.int .i64 p, .int .i64 v] 52))
      clear hfit hown
      go_wp2_with (first | (at_mapUpdate; refine wpList_mapUpdate_own _ rfl _ _ _ 100 rfl 3 101 lawInt Try.underlying100 unitElem w.heap.size i D rfl hown2 (by unfold maxLen; omega) _ _ (.int .i64 p) rfl rfl hkey (.agg []) [] unitElem_mk ?_; intro w1 hown1 hgrow1) | go_in)
      go_roundg (gk - 1)
      case measure => omega
      case rel => exact ⟨i + 1, by go_num, by omega, hd ⟨hb2.out.grown hgrow1 hb2.out.size (fun j hj => by cases hj; exact Nat.le_refl _), _, hown1, by rw [hts.out]; exact HS.out.put p _⟩⟩
    · have hltd : decide ((i : Int) < (ws.length : Int)) = false := by simp; omega
      have ei : i = ws.length := by omega
      have hE : Hid (decide (size D < ws.length) = T) := hd (by
        rw [HT.out]
        have h1 := HS.out.le
        have h2 := HS.out.nod
        rw [ei, List.take_of_length_le (by simp)] at h1 h2
        simp only [List.length_map] at h1 h2
        by_cases hnd : (ws.map (·.1)).Nodup
        · have := h2.2 hnd
          simp [hnd]; omega
        · have : size D ≠ ws.length := fun e => hnd (h2.1 e)
          simp [hnd]; omega)
      clear ei HS
      obtain ⟨S, hS⟩ : ∃ S, Hid (size D = S) := ⟨_, rfl⟩
      have hE' := hE.out
      rw [hS.out] at hE'
      have hlen := fun ty => hown.len Try.underlying100 ty
      rw [hS.out] at hlen
      go_wp2_with fail
      go_ret
      exact ⟨by first | rfl | (rw [← hE']; rfl), hb⟩
end Go.Proofs.Ytknklbojcnhjcaa
