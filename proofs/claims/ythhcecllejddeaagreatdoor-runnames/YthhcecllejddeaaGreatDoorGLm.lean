/- A lane, plainly: how it stands, and what each call makes of it. -/
import Derived.KernelRfl
namespace Go.Proofs.YthhcecllejddeaaGreatDoor.Lane
structure LS where
 room : Nat
 vs : List Int
 ws : List (Int × Int)
 tk : Int
 dr : Int
def moreL (n : Int) : Int := if 65535 ≤ n then 65535 else n + 1
def idxL : List (Int × Int) → Int → Int
 | [], _ => -1
 | w :: ws, p => if w.1 = p then 0 else if idxL ws p < 0 then -1 else idxL ws p + 1
theorem idxL_none {ws : List (Int × Int)} {p : Int} (h : ∀ j, j < ws.length → (ws.getD j (0, 0)).1 ≠ p) : idxL ws p = -1 := by
 induction ws with
 | nil => rfl
 | cons w ws ih =>
  unfold idxL
  rw [if_neg (by simpa using h 0 (by simp)), ih (fun j hj => by simpa using h (j + 1) (by simp; omega))]
  rfl
theorem idxL_some {ws : List (Int × Int)} {p : Int} {i : Nat} (hi : i < ws.length) (h : (ws.getD i (0, 0)).1 = p) (h0 : ∀ j, j < i → (ws.getD j (0, 0)).1 ≠ p) : idxL ws p = i := by
 induction ws generalizing i with
 | nil => simp at hi
 | cons w ws ih =>
  unfold idxL
  cases i with
  | zero => rw [if_pos (by simpa using h)]; rfl
  | succ i =>
   have := ih (i := i) (by simpa using hi) (by simpa using h) (fun j hj => by simpa using h0 (j + 1) (by omega))
   rw [if_neg (by simpa using h0 0 (by omega)), this, if_neg (by omega)]
   omega
theorem idxL_cases (ws : List (Int × Int)) (p : Int) : (idxL ws p = -1 ∧ ∀ w ∈ ws, w.1 ≠ p) ∨ ∃ i : Nat, idxL ws p = i ∧ i < ws.length := by
 induction ws with
 | nil => exact .inl ⟨rfl, by simp⟩
 | cons w ws ih =>
  unfold idxL
  by_cases h : w.1 = p
  ·rw [if_pos h]; exact .inr ⟨0, rfl, by simp⟩
  ·rw [if_neg h]
   rcases ih with ⟨h1, h2⟩ | ⟨i, h1, h2⟩
   ·refine .inl ⟨by rw [h1]; rfl, fun x hx => ?_⟩
    rcases List.mem_cons.mp hx with rfl | hx
    ·exact h
    ·exact h2 x hx
   ·refine .inr ⟨i + 1, by rw [h1, if_neg (by omega)]; omega, by simp; omega⟩
def Fit64 (x : Int) : Prop := -9223372036854775808 ≤ x ∧ x ≤ 9223372036854775807
def MayL (room : Int) (vs : List Int) (ws : List (Int × Int)) (tk dr : Int) : Prop :=
 (vs.length : Int) ≤ room ∧ (ws.length = 0 ∨ room ≤ (vs.length : Int)) ∧ (ws.map (·.1)).Nodup ∧ (0 ≤ tk ∧ tk ≤ 65535) ∧ (0 ≤ dr ∧ dr ≤ 65535)
structure Good (s : LS) : Prop where
 r1 : 1 ≤ s.room
 r2 : s.room ≤ 64
 may : MayL s.room s.vs s.ws s.tk s.dr
 fit : ∀ w ∈ s.ws, Fit64 w.1
theorem Good.len {s : LS} (h : Good s) : s.vs.length ≤ s.room := by have := h.may.1; omega
def takeL (s : LS) : (Int × (Int × Int) × Bool × Int) × LS :=
 match s.vs, s.ws with
 | [], _ => ((0, (0, 0), false, 21), s)
 | v :: r, [] => ((v, (0, 0), false, 0), { s with vs := r, tk := moreL s.tk })
 | v :: r, w :: q => ((v, w, true, 0), { s with vs := r ++ [w.2], ws := q, tk := moreL s.tk })
def leaveL (s : LS) (p : Int) : Bool × LS := if 0 ≤ idxL s.ws p then (true, { s with ws := s.ws.eraseIdx (idxL s.ws p).toNat }) else (false, s)
def endL (s : LS) : LS := { s with ws := [] }
theorem Good.leave {s : LS} (h : Good s) (p : Int) : Good (leaveL s p).2 := by
 unfold leaveL
 split
 ·obtain ⟨h1, h2, h3, h4, h5⟩ := h.may
  refine ⟨h.r1, h.r2, ⟨h1, ?_, ?_, h4, h5⟩, fun x hx => h.fit x (List.mem_of_mem_eraseIdx hx)⟩
  ·rcases h2 with h2 | h2
   ·exact .inl (by have := List.eq_nil_of_length_eq_zero h2; simp [this])
   ·exact .inr h2
  ·exact List.Nodup.sublist ((List.eraseIdx_sublist _ _).map _) h3
 ·exact h
theorem Good.over {s : LS} (h : Good s) : Good (endL s) := by
 obtain ⟨h1, h2, h3, h4, h5⟩ := h.may
 exact ⟨h.r1, h.r2, ⟨h1, .inl rfl, by simp [endL], h4, h5⟩, by simp [endL]⟩
end Go.Proofs.YthhcecllejddeaaGreatDoor.Lane

namespace Go.Proofs.YthhcecllejddeaaGreatDoor.Lane
instance : Inhabited LS := ⟨⟨0, [], [], 0, 0⟩⟩
def L0 : LS := ⟨0, [], [], 0, 0⟩
def lnOf (ss : List LS) (i : Nat) : LS := ss.getD i L0
theorem lnOf_mem {ss : List LS} {i : Nat} (h : i < ss.length) : lnOf ss i ∈ ss := by
 unfold lnOf
 rw [List.getD_eq_getElem?_getD, List.getElem?_eq_getElem h]
 exact List.getElem_mem h
theorem lnOf_set (ss : List LS) (i j : Nat) (s : LS) (h : i < ss.length) : lnOf (ss.set i s) j = if j = i then s else lnOf ss j := by
 unfold lnOf
 rw [List.getD_eq_getElem?_getD, List.getD_eq_getElem?_getD, List.getElem?_set]
 by_cases e : i = j
 ·subst e; simp [h]
 ·rw [if_neg e, if_neg (fun h => e h.symm)]
structure GoodP (ss : List LS) (cur : Nat) : Prop where
 n1 : 1 ≤ ss.length
 n2 : ss.length ≤ 9
 cu : cur < ss.length
 each : ∀ s ∈ ss, Good s
theorem GoodP.at {ss : List LS} {cur : Nat} (h : GoodP ss cur) {i : Nat} (hi : i < ss.length) : Good (lnOf ss i) := h.each _ (lnOf_mem hi)
theorem GoodP.map {ss : List LS} {cur : Nat} (h : GoodP ss cur) (f : LS → LS) (hf : ∀ s, Good s → Good (f s)) : GoodP (ss.map f) cur :=
 ⟨by simpa using h.n1, by simpa using h.n2, by simpa using h.cu, fun x hx => by
  obtain ⟨s, hs, rfl⟩ := List.mem_map.mp hx
  exact hf s (h.each s hs)⟩
def leaveP (ss : List LS) (p : Int) : Bool × List LS := (ss.any (fun s => (leaveL s p).1), ss.map (fun s => (leaveL s p).2))
def endP (ss : List LS) : List (Int × Int) × List LS := (ss.flatMap (·.ws), ss.map endL)
theorem GoodP.leave {ss : List LS} {cur : Nat} (h : GoodP ss cur) (p : Int) : GoodP (leaveP ss p).2 cur := h.map _ (fun _ hs => hs.leave p)
theorem GoodP.over {ss : List LS} {cur : Nat} (h : GoodP ss cur) : GoodP (endP ss).2 cur := h.map _ (fun _ hs => hs.over)
def mapTo (f : LS → LS) (i : Nat) (ss : List LS) : List LS := (ss.take i).map f ++ ss.drop i
theorem mapTo_len (f : LS → LS) (i : Nat) (ss : List LS) : (mapTo f i ss).length = ss.length := by simp [mapTo]; omega
theorem mapTo_zero (f : LS → LS) (ss : List LS) : mapTo f 0 ss = ss := by simp [mapTo]
theorem mapTo_all (f : LS → LS) {i : Nat} {ss : List LS} (h : ss.length ≤ i) : mapTo f i ss = ss.map f := by simp [mapTo, List.take_of_length_le h, List.drop_of_length_le h]
theorem mapTo_at (f : LS → LS) {i : Nat} {ss : List LS} (h : i < ss.length) : lnOf (mapTo f i ss) i = lnOf ss i := by
 unfold lnOf mapTo
 rw [List.getD_eq_getElem?_getD, List.getD_eq_getElem?_getD, List.getElem?_append_right (by simp; omega)]
 simp
 rw [show i - min i ss.length = 0 by omega, Nat.add_zero]
theorem mapTo_set (f : LS → LS) {i : Nat} {ss : List LS} (h : i < ss.length) : (mapTo f i ss).set i (f (lnOf ss i)) = mapTo f (i + 1) ss := by
 unfold lnOf mapTo
 rw [List.set_append_right _ _ (by simp; omega), List.take_succ_eq_append_getElem h, List.map_append, List.append_assoc]
 have e : i - (List.map f (List.take i ss)).length = 0 := by simp; omega
 rw [e, List.drop_eq_getElem_cons h, List.getD_eq_getElem?_getD, List.getElem?_eq_getElem h]
 rfl
end Go.Proofs.YthhcecllejddeaaGreatDoor.Lane
