/- twice: whether somebody waits twice. -/
import Derived.Test.YthhcecllejddeaaGreatDoorGLb
import Derived.Maps.OwnSet
namespace Go.Proofs.YthhcecllejddeaaGreatDoor.Lane
open Go.RowKit Go.Maps
theorem lawInt : Keyed Tryz.prog 3 := int_keyed Tryz.underlying3
structure SetOf (D : DataW Unit) (ps : List Int) : Prop where
 tidy : Tidy D
 has : ∀ p, Maps.has D (.int .i64 p) = decide (p ∈ ps)
 le : Maps.size D ≤ ps.length
 nod : Maps.size D = ps.length ↔ ps.Nodup
theorem SetOf.nil : SetOf (.map []) [] := ⟨⟨[], rfl, List.Pairwise.nil⟩, fun p => by simp [Maps.has], by simp [Maps.size], by simp [Maps.size]⟩
theorem SetOf.put {D : DataW Unit} {ps : List Int} (h : SetOf D ps) (p : Int) (d : DataW Unit) : SetOf (D.put (.int .i64 p) d) (ps ++ [p]) := by
 have hs := size_put (k := .int .i64 p) h.tidy d
 rw [h.has p] at hs
 refine ⟨h.tidy.put (k := .int .i64 p) trivial d, fun q => ?_, ?_, ?_⟩
 ·by_cases e : q = p
  ·subst e
   rw [has_put_same (k := .int .i64 q) h.tidy.isMap trivial]
   simp
  ·rw [has_put_other (by simpa using e), h.has q]
   simp [e]
 ·rw [hs]
  have := h.le
  split <;> simp <;> omega
 ·rw [hs, List.nodup_append]
  have := h.le
  by_cases e : p ∈ ps
  ·simp only [e, decide_true, if_true, List.length_append, List.length_singleton]
   constructor
   ·intro h1; omega
   ·rintro ⟨_, _, h3⟩
    exact absurd rfl (h3 p e p (by simp))
  ·simp only [e, decide_false, List.length_append, List.length_singleton, Bool.false_eq_true, if_false]
   constructor
   ·intro h1
    refine ⟨h.nod.1 (by omega), by simp, fun a ha b hb => ?_⟩
    simp at hb
    subst hb
    exact fun e' => e (e' ▸ ha)
   ·rintro ⟨h1, _, _⟩
    have := h.nod.2 h1
    omega
theorem take_snoc {α : Type} (l : List α) (d : α) (i : Nat) (h : i < l.length) : l.take (i + 1) = l.take i ++ [l.getD i d] := by
 rw [List.take_succ_eq_append_getElem h, List.getD_eq_getElem?_getD, List.getElem?_eq_getElem h]
 rfl
set_option maxRecDepth 100000 in
set_option maxHeartbeats 2000000 in
theorem twice_any {a : Option Addr} {cap : Nat} {ws : List (Int × Int)} {w : World} (hR : Rd w a (wC ws)) (hn : ws.length ≤ 8000000000000) (hf : ∀ x ∈ ws, Fit64 x.1) (T : Bool) (hT : T = !decide (ws.map (·.1)).Nodup) :
  Calls Tryz.prog 219 #[.slice a ws.length cap] w fun e w' => e = .returned (.bool T) ∧ Below w.heap.size w w' := by
 have HR := hd hR
 have HF := hd hf
 have HT := hd hT
 have hmk : (w.alloc (.map #[] 0)).ownsMap Tryz.prog 3 unitElem w.heap.size 0 (.map [] : DataW Unit) := World.ownsMap_made w Tryz.prog 3 unitElem
 have HM : Hid (∃ D : DataW Unit, (w.alloc (.map #[] 0)).ownsMap Tryz.prog 3 unitElem w.heap.size 0 D ∧ SetOf D ((ws.map (·.1)).take 0)) := hd ⟨_, hmk, by simpa using SetOf.nil⟩
 have HB0 : Hid (Below w.heap.size w (w.alloc (.map #[] 0))) := hd (below_al w _)
 clear hR hf hT hmk
 have hmm : (Instr.makeMap 338 none).run Tryz.prog w = .ok (.map (some w.heap.size)) (w.alloc (.map #[] 0)) := rfl
 go_enter Tryz.func219, Tryz.ntmps219
 go_wp2_with fail
 go_loopg [5, 9] ws.length (fun k v5 v9 wr => ∃ i : Nat, v9 = .int .i64 i ∧ i + k = ws.length ∧ Hid (Below w.heap.size w wr ∧ ∃ D : DataW Unit, wr.ownsMap Tryz.prog 3 unitElem w.heap.size i D ∧ SetOf D ((ws.map (·.1)).take i)))
 case atStart => exact ⟨0, rfl, by omega, hd ⟨HB0.out, HM.out⟩⟩
 case round =>
  obtain ⟨i, rfl, hik, HH⟩ := hrel
  clear HM HB0
  obtain ⟨D, hown, HS⟩ := HH.out.2
  have HS := hd HS
  have hb := HH.out.1
  by_cases hlt : i < ws.length
  ·have hlt' : (i : Int) < (ws.length : Int) := by omega
   obtain ⟨b, o, rfl, c0, c1⟩ := rd_w (HR.out.below hb) i hlt
   have hfit := HF.out (ws.getD i (0, 0)) (by rw [List.getD_eq_getElem?_getD, List.getElem?_eq_getElem hlt]; exact List.getElem_mem hlt)
   have hts : Hid ((ws.map (·.1)).take (i + 1) = (ws.map (·.1)).take i ++ [(ws.getD i (0, 0)).1]) := hd (by
    rw [take_snoc (ws.map (·.1)) 0 i (by simpa using hlt)]
    congr 2
    simp [List.getD_eq_getElem?_getD, List.getElem?_eq_getElem hlt])
   obtain ⟨⟨p, v⟩, hq⟩ : ∃ t, Hid (ws.getD i (0, 0) = t) := ⟨_, rfl⟩
   rw [hq.out] at c0 c1 hfit hts
   simp only at c0 c1 hfit hts
   have hkey : keyOf Tryz.prog 3 (.int .i64 p) = some (.int .i64 p) := keyOf_int_mk Tryz.underlying3 (WalkArith.wf_i64 hfit)
   have hown2 := hown.alloc (.cells #[.int .i64 p, .int .i64 v] 259)
   have hb2 := hd (hb.alloc hb.size (.cells #[.int .i64 p, .int .i64 v] 259))
   clear hfit hown
   go_wp2_with (first | (at_mapUpdate; refine wpList_mapUpdate_own _ rfl _ _ _ 338 rfl 3 339 lawInt Tryz.underlying338 unitElem w.heap.size i D rfl hown2 (by unfold maxLen; omega) _ _ (.int .i64 p) rfl rfl hkey (.agg []) [] unitElem_mk ?_; intro w1 hown1 hgrow1) | go_in)
   go_roundg (gk - 1)
   case measure => omega
   case rel => exact ⟨i + 1, by go_num, by omega, hd ⟨hb2.out.grown hgrow1 hb2.out.size (fun j hj => by cases hj; exact Nat.le_refl _), _, hown1, by rw [hts.out]; exact HS.out.put p _⟩⟩
  ·have hltd : decide ((i : Int) < (ws.length : Int)) = false := by simp; omega
   have ei : i = ws.length := by omega
   have hE : Hid (decide (size D < ws.length) = T) := hd (by
    rw [HT.out]
    have h1 := HS.out.le
    have h2 := HS.out.nod
    rw [ei, List.take_of_length_le (by simp)] at h1 h2
    simp only [List.length_map] at h1 h2
    by_cases hnd : (ws.map (·.1)).Nodup
    ·have := h2.2 hnd
     simp [hnd]; omega
    ·have : size D ≠ ws.length := fun e => hnd (h2.1 e)
     simp [hnd]; omega)
   clear ei HS
   obtain ⟨S, hS⟩ : ∃ S, Hid (size D = S) := ⟨_, rfl⟩
   have hE' := hE.out
   rw [hS.out] at hE'
   have hlen := fun ty => hown.len Tryz.underlying338 ty
   rw [hS.out] at hlen
   go_wp2_with fail
   go_ret
   exact ⟨by first | rfl | (rw [← hE']; rfl), hb⟩
end Go.Proofs.YthhcecllejddeaaGreatDoor.Lane

namespace Go.Proofs.YthhcecllejddeaaGreatDoor.Lane
open Go.RowKit
structure AL (w : World) (vs : List Int) (ws : List (Int × Int)) (a1 a2 : Option Addr) : Prop where
 r1 : Rd w a1 (iC vs)
 r2 : Rd w a2 (wC ws)
theorem AL.below {w w' : World} {vs : List Int} {ws : List (Int × Int)} {a1 a2 : Option Addr} (h : AL w vs ws a1 a2) (hb : Below w.heap.size w w') : AL w' vs ws a1 a2 :=
 ⟨h.r1.below hb, h.r2.below hb⟩
theorem box4 (w : World) (v0 v1 v2 v3 : Value) (t : TypeId) : (w.alloc (.cells #[v0, v1, v2, v3] t)).cell? ⟨w.heap.size, 0, none⟩ = some v0 ∧ (w.alloc (.cells #[v0, v1, v2, v3] t)).cell? ⟨w.heap.size, 1, none⟩ = some v1 ∧ (w.alloc (.cells #[v0, v1, v2, v3] t)).cell? ⟨w.heap.size, 2, none⟩ = some v2 ∧ (w.alloc (.cells #[v0, v1, v2, v3] t)).cell? ⟨w.heap.size, 3, none⟩ = some v3 := by
 refine ⟨?_, ?_, ?_, ?_⟩ <;> (rw [cell_of_row _ _ _ _ _ _ (heap_alloc_new w _)]; rfl)
set_option maxRecDepth 100000 in
set_option maxHeartbeats 2000000 in
theorem mstands_any {room : Int} {vs : List Int} {ws : List (Int × Int)} {tk dr : Int} {a1 a2 : Option Addr} {c1 c2 : Nat} {w : World} (hA : AL w vs ws a1 a2) (hw : ws.length ≤ 8000000000000) (hf : ∀ x ∈ ws, Fit64 x.1) (B : Bool) (hB : B = true ↔ MayL room vs ws tk dr) :
  Calls Tryz.prog 175 #[.int .i64 room, .agg #[.slice a1 vs.length c1, .slice a2 ws.length c2, .int .i64 tk, .int .i64 dr]] w fun e w' => e = .returned (.bool B) ∧ Below w.heap.size w w' := by
 have hb0 := below_al w (.cells #[.slice a1 vs.length c1, .slice a2 ws.length c2, .int .i64 tk, .int .i64 dr] 219)
 obtain ⟨q0, q1, q2, q3⟩ := box4 w (.slice a1 vs.length c1) (.slice a2 ws.length c2) (.int .i64 tk) (.int .i64 dr) 219
 have hA0 := hA.below hb0
 obtain ⟨T, hT⟩ : ∃ T : Bool, T = !decide (ws.map (·.1)).Nodup := ⟨_, rfl⟩
 have htw := twice_any (cap := c2) hA0.r2 hw hf T hT
 have HT : Hid (T = false ↔ (ws.map (·.1)).Nodup) := hd (by rw [hT]; simp)
 obtain ⟨K1, hK1⟩ : ∃ K1 : Bool, K1 = decide (0 ≤ tk ∧ tk ≤ 65535) := ⟨_, rfl⟩
 obtain ⟨K2, hK2⟩ : ∃ K2 : Bool, K2 = decide (0 ≤ dr ∧ dr ≤ 65535) := ⟨_, rfl⟩
 have hc1 := fun W => counts_any tk W K1 hK1
 have hc2 := fun W => counts_any dr W K2 hK2
 have HK1 : Hid (K1 = true ↔ (0 ≤ tk ∧ tk ≤ 65535)) := hd (by rw [hK1]; simp)
 have HK2 : Hid (K2 = true ↔ (0 ≤ dr ∧ dr ≤ 65535)) := hd (by rw [hK2]; simp)
 have HB := hd hB
 have HB0 := hd hb0
 have HCE : Hid ((vs.length : Int) ≤ room → (ws.length = 0 ∨ room ≤ (vs.length : Int)) → (ws.map (·.1)).Nodup → B = (K1 && K2)) := hd (fun h1 h2 h3 => by
  rw [Bool.eq_iff_iff, HB.out, Bool.and_eq_true, HK1.out, HK2.out]
  exact ⟨fun h => h.2.2.2, fun h => ⟨h1, h2, h3, h⟩⟩)
 have HNE : Hid (¬ ((vs.length : Int) ≤ room ∧ (ws.length = 0 ∨ room ≤ (vs.length : Int)) ∧ (ws.map (·.1)).Nodup) → B = false) := hd (fun h => by
  cases hb : B
  ·rfl
  ·obtain ⟨h1, h2, h3, _⟩ := HB.out.1 hb
   exact absurd ⟨h1, h2, h3⟩ h)
 clear hA hA0 hT hK1 hK2 hB hb0 hf HK1 HK2 HB
 obtain ⟨N, hN⟩ : ∃ N, Hid (vs.length = N) := ⟨_, rfl⟩
 obtain ⟨M, hM⟩ : ∃ M, Hid (ws.length = M) := ⟨_, rfl⟩
 have hnil : Hid (M = 0 → (ws.map (·.1)).Nodup) := hd (fun h => by rw [List.eq_nil_of_length_eq_zero (hM.out.trans h)]; simp)
 rw [hN.out, hM.out] at HB0 HCE HNE q0 q1 q2 q3 htw ⊢
 rw [hM.out] at hw
 by_cases g1 : room < (N : Int)
 ·have e1 : B = false := HNE.out (fun h => by omega)
  subst e1
  go_enter Tryz.func175, Tryz.ntmps175
  go_wp2_with fail
  go_ret
  exact ⟨rfl, HB0.out⟩
 ·have g1' : decide (room < (N : Int)) = false := by simpa using g1
  by_cases g2 : 0 < M
  ·have g2' : (0 : Int) < (M : Int) := by omega
   by_cases g3 : (N : Int) < room
   ·have e1 : B = false := HNE.out (fun h => by omega)
    subst e1
    clear HCE HNE hnil
    go_enter Tryz.func175, Tryz.ntmps175
    go_wp2_with fail
    go_ret
    exact ⟨rfl, HB0.out⟩
   ·have g3' : decide ((N : Int) < room) = false := by simpa using g3
    cases hTT : T with
    | true =>
     have e1 : B = false := HNE.out (fun h => by have := HT.out.2 h.2.2; rw [hTT] at this; cases this)
     rw [hTT] at htw
     subst e1
     clear HCE HNE hnil HT hTT
     go_enter Tryz.func175, Tryz.ntmps175
     go_wp2_with (first | (go_at_call 219; refine htw.mono ?_; rintro e2 w2 ⟨rfl, b2⟩))
     go_ret
     exact ⟨rfl, HB0.out.trans (b2.mono HB0.out.size)⟩
    | false =>
     have e1 : B = (K1 && K2) := HCE.out (by omega) (.inr (by omega)) (HT.out.1 hTT)
     rw [hTT] at htw
     rw [e1]
     clear HCE HNE hnil HT hTT e1
     go_enter Tryz.func175, Tryz.ntmps175
     go_upto_region 5 with (first | (go_at_call 219; refine htw.mono ?_; rintro e2 w2 ⟨rfl, b2⟩))
     have q2' := (b2.cell (p := ⟨w.heap.size, 2, none⟩) (by simp)).trans q2
     have q3' := (b2.cell (p := ⟨w.heap.size, 3, none⟩) (by simp)).trans q3
     have B2 := hd (HB0.out.trans (b2.mono HB0.out.size))
     clear htw b2 q0 q1 q2 q3
     have hd1 := hc1 w2
     have hd2 := hc2 w2
     clear hc1 hc2
     cases K1
     ·go_wp2_with (first | (go_at_call 220; refine hd1.mono ?_; rintro e2 w2 ⟨rfl, rfl⟩))
      go_ret
      exact ⟨rfl, B2.out⟩
     ·go_wp2_with (first | (go_at_call 220; first | (with_reducible refine hd1.mono ?_; rintro e2 w2 ⟨rfl, rfl⟩; clear hd1) | (with_reducible refine hd2.mono ?_; rintro e2 w2 ⟨rfl, rfl⟩)))
      go_ret
      exact ⟨by first | rfl | simp, B2.out⟩
  ·have g2' : decide (0 < M) = false := by simpa using g2
   have e1 : B = (K1 && K2) := HCE.out (by omega) (.inl (by omega)) (hnil.out (by omega))
   rw [e1]
   clear HCE HNE htw hnil HT e1 g2
   go_enter Tryz.func175, Tryz.ntmps175
   go_upto_region 5 with fail
   obtain ⟨w2, hw2⟩ : ∃ W, Hid (w.alloc (.cells #[.slice a1 N c1, .slice a2 M c2, .int .i64 tk, .int .i64 dr] 219) = W) := ⟨_, rfl⟩
   rw [hw2.out] at HB0 q0 q1 q2 q3 ⊢
   have hd1 := hc1 w2
   have hd2 := hc2 w2
   clear hc1 hc2
   cases K1
   ·go_wp2_with (first | (go_at_call 220; refine hd1.mono ?_; rintro e2 w2 ⟨rfl, rfl⟩))
    go_ret
    exact ⟨rfl, HB0.out⟩
   ·go_wp2_with (first | (go_at_call 220; first | (with_reducible refine hd1.mono ?_; rintro e2 w2 ⟨rfl, rfl⟩; clear hd1) | (with_reducible refine hd2.mono ?_; rintro e2 w2 ⟨rfl, rfl⟩)))
    go_ret
    exact ⟨by first | rfl | simp, HB0.out⟩
end Go.Proofs.YthhcecllejddeaaGreatDoor.Lane

namespace Go.Proofs.YthhcecllejddeaaGreatDoor.Lane
open Go.RowKit
def Made (w : World) (T : TypeId) (s : LS) (E : Ending) (w' : World) : Prop :=
 ∃ b F, E = .returned (.tuple #[.pointer (some ⟨b, 0, none⟩), .int .i64 0]) ∧ Ln w' T b F s ∧ (∀ k, F k → w.heap.size ≤ k) ∧ Below w.heap.size w w'
def Refused (w : World) (e : Int) (E : Ending) (w' : World) : Prop := E = .returned (.tuple #[.pointer none, .int .i64 e]) ∧ Below w.heap.size w w'
theorem ln_new {w : World} {T : TypeId} {s : LS} {a1 a2 : Option Addr} {c1 c2 : Nat} (h1 : Row w 2 1 a1 s.vs.length c1 (iC s.vs)) (h2 : Row w 259 2 a2 s.ws.length c2 (wC s.ws)) (hne : ∀ k, blk a2 = some k → blk a1 ≠ some k) :
  LnAt (w.alloc (.cells #[.int .i64 s.room, .slice a1 s.vs.length c1, .slice a2 s.ws.length c2, .int .i64 s.tk, .int .i64 s.dr] T)) T w.heap.size s a1 c1 a2 c2 :=
 ⟨heap_alloc_new _ _, h1.below (below_al _ _), h2.below (below_al _ _), fun k hk => Nat.ne_of_lt (h1.lt k hk), fun k hk => ⟨Nat.ne_of_lt (h2.lt k hk), hne k hk⟩⟩
set_option maxRecDepth 100000 in
set_option maxHeartbeats 2000000 in
theorem lay_form {room : Int} {vs : List Int} {ws : List (Int × Int)} {tk dr : Int} {a1 a2 : Option Addr} {c1 c2 : Nat} {w : World} (hA : AL w vs ws a1 a2) (hr1 : 1 ≤ room) (hr2 : room ≤ 64) (hw : ws.length ≤ 8000000000000) (hf : ∀ x ∈ ws, Fit64 x.1) (hm : ¬ MayL room vs ws tk dr) :
  Calls Tryz.prog 131 #[.int .i64 room, .agg #[.slice a1 vs.length c1, .slice a2 ws.length c2, .int .i64 tk, .int .i64 dr]] w (Refused w 4) := by
 have hb0 := below_al w (.cells #[.slice a1 vs.length c1, .slice a2 ws.length c2, .int .i64 tk, .int .i64 dr] 219)
 obtain ⟨q0, q1, q2, q3⟩ := box4 w (.slice a1 vs.length c1) (.slice a2 ws.length c2) (.int .i64 tk) (.int .i64 dr) 219
 have hst := mstands_any (c1 := c1) (c2 := c2) (tk := tk) (dr := dr) (room := room) (hA.below hb0) hw hf false (by simp [hm])
 have g1 : decide (room < 1) = false := by simp; omega
 have g2 : decide (64 < room) = false := by simp; omega
 have HB0 := hd hb0
 clear hA hb0 hf hm hr1 hr2
 obtain ⟨N, hN⟩ : ∃ N, Hid (vs.length = N) := ⟨_, rfl⟩
 obtain ⟨M, hM⟩ : ∃ M, Hid (ws.length = M) := ⟨_, rfl⟩
 rw [hN.out, hM.out] at HB0 q0 q1 q2 q3 hst ⊢
 clear hw
 go_enter Tryz.func131, Tryz.ntmps131
 go_wp2_with (first | (go_at_call 175; refine hst.mono ?_; rintro e2 w2 ⟨rfl, b2⟩))
 go_ret2
 exact ⟨rfl, HB0.out.trans (b2.mono HB0.out.size)⟩
set_option maxRecDepth 100000 in
set_option maxHeartbeats 2000000 in
theorem lay_ok {room : Nat} {vs : List Int} {ws : List (Int × Int)} {tk dr : Int} {a1 a2 : Option Addr} {c1 c2 : Nat} {w : World} (hA : AL w vs ws a1 a2) (hr1 : 1 ≤ room) (hr2 : room ≤ 64) (hw : ws.length ≤ 8000000000000) (hf : ∀ x ∈ ws, Fit64 x.1) (hm : MayL room vs ws tk dr) :
    Calls Tryz.prog 131 #[.int .i64 (room : Int), .agg #[.slice a1 vs.length c1, .slice a2 ws.length c2, .int .i64 tk, .int .i64 dr]] w (Made w 263 ⟨room, vs, ws, tk, dr⟩) := by
  have hb0 := below_al w (.cells #[.slice a1 vs.length c1, .slice a2 ws.length c2, .int .i64 tk, .int .i64 dr] 219)
  obtain ⟨q0, q1, q2, q3⟩ := box4 w (.slice a1 vs.length c1) (.slice a2 ws.length c2) (.int .i64 tk) (.int .i64 dr) 219
  have hst := mstands_any (c1 := c1) (c2 := c2) (tk := tk) (dr := dr) (room := (room : Int)) (hA.below hb0) hw hf true (by simp [hm])
  have g1 : decide ((room : Int) < 1) = false := by simp; omega
  have g2 : decide (64 < (room : Int)) = false := by simp; omega
  have hvl : vs.length ≤ 64 := by have := hm.1; omega
  have hcI := fun (W : World) (hb : Below w.heap.size w W) => copied_i (cap := c1) (hA.below hb).r1 (by omega)
  have hcW := fun (W : World) (hb : Below w.heap.size w W) => copied_w (cap := c2) (hA.below hb).r2 hw
  have HB0 := hd hb0
  obtain ⟨Q, hQ⟩ : ∃ Q : Ending → World → Prop, Hid (Made w 263 ⟨room, vs, ws, tk, dr⟩ = Q) := ⟨_, rfl⟩
  rw [hQ.out]
  clear hA hb0 hf hm hr1
  obtain ⟨N, hN⟩ : ∃ N, Hid (vs.length = N) := ⟨_, rfl⟩
  obtain ⟨M, hM⟩ : ∃ M, Hid (ws.length = M) := ⟨_, rfl⟩
  rw [hN.out, hM.out] at HB0 q0 q1 q2 q3 hst ⊢
  rw [hN.out] at hcI hvl
  rw [hM.out] at hcW
  clear hw
  obtain ⟨G, hG⟩ : ∃ G, Hid (w.heap.size = G) := ⟨_, rfl⟩
  have HC : Hid (∀ W W' : World, Below W.heap.size W W' → G < W.heap.size → (W.cell? ⟨G, 0, none⟩ = some (.slice a1 N c1) ∧ W.cell? ⟨G, 1, none⟩ = some (.slice a2 M c2) ∧ W.cell? ⟨G, 2, none⟩ = some (.int .i64 tk) ∧ W.cell? ⟨G, 3, none⟩ = some (.int .i64 dr)) → (W'.cell? ⟨G, 0, none⟩ = some (.slice a1 N c1) ∧ W'.cell? ⟨G, 1, none⟩ = some (.slice a2 M c2) ∧ W'.cell? ⟨G, 2, none⟩ = some (.int .i64 tk) ∧ W'.cell? ⟨G, 3, none⟩ = some (.int .i64 dr))) := hd (fun W W' hb hl h => by
    rw [hb.cell (p := ⟨G, 0, none⟩) hl, hb.cell (p := ⟨G, 1, none⟩) hl, hb.cell (p := ⟨G, 2, none⟩) hl, hb.cell (p := ⟨G, 3, none⟩) hl]
    exact h)
  go_enter Tryz.func131, Tryz.ntmps131
  go_upto_region 5 with (first | (go_at_call 175; refine hst.mono ?_; rintro e2 w2 ⟨rfl, b2⟩))
  rw [hG.out] at q0 q1 q2 q3 ⊢
  have hl0 : G < (w.alloc (.cells #[.slice a1 N c1, .slice a2 M c2, .int .i64 tk, .int .i64 dr] 219)).heap.size := by simp [hG.out]
  obtain ⟨p0, p1, p2, p3⟩ := HC.out _ w2 b2 hl0 ⟨q0, q1, q2, q3⟩
  have HB2 := hd (HB0.out.trans (b2.mono HB0.out.size))
  have hl2 : Hid (G < w2.heap.size) := hd (Nat.lt_of_lt_of_le hl0 b2.size)
  clear b2 q0 q1 q2 q3 hst hl0 HB0
  have hc1 := hcI w2.drew HB2.out.drew
  go_region_held3 (fun w' => w'.cell? ⟨G, 0, none⟩ = some (.slice a1 N c1) ∧ w'.cell? ⟨G, 1, none⟩ = some (.slice a2 M c2) ∧ w'.cell? ⟨G, 2, none⟩ = some (.int .i64 tk) ∧ w'.cell? ⟨G, 3, none⟩ = some (.int .i64 dr)) (go_keep)
    (first
      | (go_at_call 158; refine hc1.mono ?_; rintro e3 w3 ⟨g1, rfl, R3, hg3, b3⟩
         have HB3 := hd (HB2.out.drew.trans (b3.mono HB2.out.size))
         have hl3 : Hid (G < w3.heap.size) := hd (Nat.lt_of_lt_of_le hl2.out b3.size)
         obtain ⟨u0, u1, u2, u3⟩ := HC.out w2.drew w3 b3 hl2.out ⟨p0, p1, p2, p3⟩
         have hc2 := hcW w3 HB3.out
         have HR3 := hd R3
         have hgg3 := hd hg3
         clear R3 b3 hg3)
      | (go_at_call 159; refine hc2.mono ?_; rintro e4 w4 ⟨g2, rfl, R4, hg4, b4⟩
         have HB4 := hd (HB3.out.trans (b4.mono HB3.out.size))
         have hl4 : Hid (G < w4.heap.size) := hd (Nat.lt_of_lt_of_le hl3.out b4.size)
         obtain ⟨v0, v1, v2, v3⟩ := HC.out w3 w4 b4 hl3.out ⟨u0, u1, u2, u3⟩
         have hnl4 : G ≠ w4.heap.size := Nat.ne_of_lt hl4.out
         have HR3' := hd (HR3.out.below b4)
         have HR4 := hd R4
         have hgg4 := hd hg4
         clear R4 b4 hg4))
  have HFI : Hid (Q (.returned (.tuple #[.pointer (some ⟨w4.heap.size, 0, none⟩), .int .i64 0])) (w4.alloc (.cells #[.int .i64 room, .slice (some ⟨g1, 0, none⟩) N N, .slice (some ⟨g2, 0, none⟩) M M, .int .i64 tk, .int .i64 dr] 263))) := hd (by
    rw [← hQ.out, ← hN.out, ← hM.out]
    have h1 : w.heap.size ≤ g1 := Nat.le_trans HB2.out.size hgg3.out
    have h2 : g1 < w3.heap.size := HR3.out.lt g1 rfl
    have h3 : w3.heap.size ≤ g2 := hgg4.out
    have h4 := HB4.out.size
    have hL := ln_new (T := 263) (s := ⟨room, vs, ws, tk, dr⟩) (c1 := vs.length) (c2 := ws.length) (by rw [hN.out]; exact HR3'.out) (by rw [hM.out]; exact HR4.out) (fun k hk e => by cases hk; cases e; omega)
    refine ⟨_, _, rfl, hL.ln, fun k hk => ?_, HB4.out.alloc HB4.out.size _⟩
    rcases hk with rfl | hk | hk
    · exact h4
    · cases hk; exact h1
    · cases hk; simp only; omega)
  clear HR3 HR3' HR4 hgg3 hgg4 hcI hcW hc1 hc2 v0 v1 v2 v3 u0 u1 u2 u3 p0 p1 p2 p3
  go_wp2_with fail
  exact HFI.out
end Go.Proofs.YthhcecllejddeaaGreatDoor.Lane

namespace Go.Proofs.YthhcecllejddeaaGreatDoor.Lane
open Go.RowKit
end Go.Proofs.YthhcecllejddeaaGreatDoor.Lane

namespace Go.Proofs.YthhcecllejddeaaGreatDoor.Lane
open Go.RowKit
end Go.Proofs.YthhcecllejddeaaGreatDoor.Lane

namespace Go.Proofs.YthhcecllejddeaaGreatDoor.Lane
open Go.RowKit
theorem join_w {w : World} {a : Option Addr} {n c : Nat} {xs : List Value} (hR : Row w 259 2 a n c xs) {a2 : Option Addr} {m c2 : Nat} {ys : List Value} (hS : Rd w a2 ys) (hl : ys.length = m * 2) (h1 : ∀ u ∈ ys, u.oneCell' = true) (hn : n + m ≤ 8000000000000) :
  ∃ a' c' w', (∀ ty, (Builtin.append_ #[217, 217] ty #[.slice a n c, .slice a2 m c2]).run Tryz.prog w = .ok (.slice a' (n + m) c') w') ∧
   Row w' 259 2 a' (n + m) c' (xs ++ ys) ∧ Mod (fun k => blk a = some k) w w' ∧ (∀ k, blk a' = some k → blk a = some k ∨ w.heap.size ≤ k) := by
 obtain ⟨i, i1, i2, i3, i4⟩ := info_parts infoW
 obtain ⟨a', c', w', k1, k2, k3, k4, _⟩ := run_append_row (P := Tryz.prog) _ 217 259 i _ 2 16 Tryz.underlying217 i1 i2 i3 i4 rfl hR (.slice a2 m c2) m ys (hS.src Tryz.underlying217 hl (by decide) h1) (by unfold maxLen; omega) (by omega)
 exact ⟨a', c', w', k1, k2, k3, k4⟩
end Go.Proofs.YthhcecllejddeaaGreatDoor.Lane

namespace Go.Proofs.YthhcecllejddeaaGreatDoor.Lane
open Go.RowKit
end Go.Proofs.YthhcecllejddeaaGreatDoor.Lane

namespace Go.Proofs.YthhcecllejddeaaGreatDoor.Lane
open Go.RowKit
structure OwnAL (w w' : World) (vs : List Int) (ws : List (Int × Int)) (a1 : Option Addr) (c1 : Nat) (a2 : Option Addr) (c2 : Nat) : Prop where
 vals : Row w' 2 1 a1 vs.length c1 (iC vs)
 wts : Row w' 259 2 a2 ws.length c2 (wC ws)
 n1 : ∀ k, blk a1 = some k → w.heap.size ≤ k
 n2 : ∀ k, blk a2 = some k → w.heap.size ≤ k
 ne : ∀ k, blk a2 = some k → blk a1 ≠ some k
 bel : Below w.heap.size w w'
theorem Told.own {w w' : World} {s : LS} {g1 g2 : Nat} (h : Told w w' s g1 g2) : OwnAL w w' s.vs s.ws (some ⟨g1, 0, none⟩) s.vs.length (some ⟨g2, 0, none⟩) s.ws.length :=
 ⟨h.vals, h.wts, fun k hk => by cases hk; exact h.n1, fun k hk => by cases hk; exact h.n2, fun k hk e => by cases hk; cases e; exact h.ne rfl, h.bel⟩
section
variable {w w' : World} {t : TypeId} {G : Nat} {v0 v1 v2 v3 : Value}
end
end Go.Proofs.YthhcecllejddeaaGreatDoor.Lane
