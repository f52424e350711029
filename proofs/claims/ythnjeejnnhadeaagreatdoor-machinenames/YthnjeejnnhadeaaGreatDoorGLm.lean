/- A lane, plainly: how it stands, and what each call makes of it. -/
import Derived.KernelRfl
namespace Go.Proofs.YthnjeejnnhadeaaGreatDoor.Lane
structure LS where
 room : Nat
 vs : List Int
 ws : List (Int × Int)
 tk : Int
 dr : Int
def moreL (n : Int) : Int := if 65535 ≤ n then 65535 else n + 1
theorem moreL_up {n : Int} (h : 65535 ≤ n) : moreL n = 65535 := by unfold moreL; rw [if_pos h]
theorem moreL_on {n : Int} (h : n < 65535) : moreL n = n + 1 := by unfold moreL; rw [if_neg (by omega)]
theorem moreL_le {n : Int} (h : 0 ≤ n ∧ n ≤ 65535) : 0 ≤ moreL n ∧ moreL n ≤ 65535 := by unfold moreL; split <;> omega
def idxL : List (Int × Int) → Int → Int
 | [], _ => -1
 | w :: ws, p => if w.1 = p then 0 else if idxL ws p < 0 then -1 else idxL ws p + 1
theorem idxL_none {ws : List (Int × Int)} {p : Int} (h : ∀ j, j < ws.length → (ws.getD j (0, 0)).1 ≠ p) : idxL ws p = -1 := by
 induction ws with
 | nil => rfl
 | cons w ws ih =>
  unfold idxL
  rw [if_neg (by simpa using h 0 (by simp)), ih (fun j hj => by simpa using h (j + 1) (by simp; omega))]
  rfl
theorem idxL_some {ws : List (Int × Int)} {p : Int} {i : Nat} (hi : i < ws.length) (h : (ws.getD i (0, 0)).1 = p) (h0 : ∀ j, j < i → (ws.getD j (0, 0)).1 ≠ p) : idxL ws p = i := by
 induction ws generalizing i with
 | nil => simp at hi
 | cons w ws ih =>
  unfold idxL
  cases i with
  | zero => rw [if_pos (by simpa using h)]; rfl
  | succ i =>
   have := ih (i := i) (by simpa using hi) (by simpa using h) (fun j hj => by simpa using h0 (j + 1) (by omega))
   rw [if_neg (by simpa using h0 0 (by omega)), this, if_neg (by omega)]
   omega
theorem idxL_cases (ws : List (Int × Int)) (p : Int) : (idxL ws p = -1 ∧ ∀ w ∈ ws, w.1 ≠ p) ∨ ∃ i : Nat, idxL ws p = i ∧ i < ws.length := by
 induction ws with
 | nil => exact .inl ⟨rfl, by simp⟩
 | cons w ws ih =>
  unfold idxL
  by_cases h : w.1 = p
  ·rw [if_pos h]; exact .inr ⟨0, rfl, by simp⟩
  ·rw [if_neg h]
   rcases ih with ⟨h1, h2⟩ | ⟨i, h1, h2⟩
   ·refine .inl ⟨by rw [h1]; rfl, fun x hx => ?_⟩
    rcases List.mem_cons.mp hx with rfl | hx
    ·exact h
    ·exact h2 x hx
   ·refine .inr ⟨i + 1, by rw [h1, if_neg (by omega)]; omega, by simp; omega⟩
def Fit64 (x : Int) : Prop := -9223372036854775808 ≤ x ∧ x ≤ 9223372036854775807
def MayL (room : Int) (vs : List Int) (ws : List (Int × Int)) (tk dr : Int) : Prop :=
 (vs.length : Int) ≤ room ∧ (ws.length = 0 ∨ room ≤ (vs.length : Int)) ∧ (ws.map (·.1)).Nodup ∧ (0 ≤ tk ∧ tk ≤ 65535) ∧ (0 ≤ dr ∧ dr ≤ 65535)
structure Good (s : LS) : Prop where
 r1 : 1 ≤ s.room
 r2 : s.room ≤ 64
 may : MayL s.room s.vs s.ws s.tk s.dr
 fit : ∀ w ∈ s.ws, Fit64 w.1
theorem Good.len {s : LS} (h : Good s) : s.vs.length ≤ s.room := by have := h.may.1; omega
def putL (s : LS) (v : Int) : Int × LS := if s.vs.length = s.room then (19, s) else (0, { s with vs := s.vs ++ [v] })
def dropL (s : LS) : LS := { s with dr := moreL s.dr }
def takeL (s : LS) : (Int × (Int × Int) × Bool × Int) × LS :=
 match s.vs, s.ws with
 | [], _ => ((0, (0, 0), false, 21), s)
 | v :: r, [] => ((v, (0, 0), false, 0), { s with vs := r, tk := moreL s.tk })
 | v :: r, w :: q => ((v, w, true, 0), { s with vs := r ++ [w.2], ws := q, tk := moreL s.tk })
def waitL (s : LS) (p v : Int) : Int × LS := if s.vs.length = s.room then (if 0 ≤ idxL s.ws p then (8, s) else (0, { s with ws := s.ws ++ [(p, v)] })) else (20, s)
def leaveL (s : LS) (p : Int) : Bool × LS := if 0 ≤ idxL s.ws p then (true, { s with ws := s.ws.eraseIdx (idxL s.ws p).toNat }) else (false, s)
def endL (s : LS) : LS := { s with ws := [] }
theorem Good.put {s : LS} (h : Good s) (v : Int) : Good (putL s v).2 := by
 unfold putL
 split
 ·exact h
 ·rename_i hne
  have hl := h.len
  obtain ⟨h1, h2, h3, h4, h5⟩ := h.may
  refine ⟨h.r1, h.r2, ⟨?_, ?_, h3, h4, h5⟩, h.fit⟩
  ·simp; omega
  ·rcases h2 with h2 | h2
   ·exact .inl h2
   ·exact absurd (by omega : s.vs.length = s.room) hne
theorem Good.drop {s : LS} (h : Good s) : Good (dropL s) := by
 obtain ⟨h1, h2, h3, h4, h5⟩ := h.may
 exact ⟨h.r1, h.r2, ⟨h1, h2, h3, h4, moreL_le h5⟩, h.fit⟩
theorem Good.take {s : LS} (h : Good s) : Good (takeL s).2 := by
 obtain ⟨h1, h2, h3, h4, h5⟩ := h.may
 have hl := h.len
 unfold takeL
 split
 ·exact h
 ·rename_i v r e1 e2
  rw [e1] at h1
  refine ⟨h.r1, h.r2, ⟨?_, ?_, h3, moreL_le h4, h5⟩, h.fit⟩
  ·simp at h1 ⊢; omega
  ·exact .inl (by simp [e2])
 ·rename_i v r w q e1 e2
  rw [e1] at h1 h2
  rw [e2] at h2 h3
  refine ⟨h.r1, h.r2, ⟨?_, ?_, ?_, moreL_le h4, h5⟩, fun x hx => h.fit x (by rw [e2]; simp at hx ⊢; exact .inr hx)⟩
  ·simp at h1 ⊢; omega
  ·refine .inr ?_
   simp at h2 ⊢
   omega
  ·simp at h3 ⊢
   exact h3.2
theorem Good.wait {s : LS} (h : Good s) {p : Int} (hp : Fit64 p) (v : Int) : Good (waitL s p v).2 := by
 unfold waitL
 split
 ·rename_i hf
  split
  ·exact h
  ·rename_i hi
   obtain ⟨h1, h2, h3, h4, h5⟩ := h.may
   rcases idxL_cases s.ws p with ⟨_, hn⟩ | ⟨i, hi', _⟩
   ·refine ⟨h.r1, h.r2, ⟨h1, .inr (by simp [hf]), ?_, h4, h5⟩, fun x hx => ?_⟩
    ·simp only [List.map_append, List.map_cons, List.map_nil]
     rw [List.nodup_append]
     refine ⟨h3, by simp, fun a ha b hb => ?_⟩
     obtain ⟨w, hw, rfl⟩ := List.mem_map.mp ha
     simp at hb
     rw [hb]
     exact hn w hw
    ·simp at hx
     rcases hx with hx | rfl
     ·exact h.fit x hx
     ·exact hp
   ·omega
 ·exact h
theorem Good.leave {s : LS} (h : Good s) (p : Int) : Good (leaveL s p).2 := by
 unfold leaveL
 split
 ·obtain ⟨h1, h2, h3, h4, h5⟩ := h.may
  refine ⟨h.r1, h.r2, ⟨h1, ?_, ?_, h4, h5⟩, fun x hx => h.fit x (List.mem_of_mem_eraseIdx hx)⟩
  ·rcases h2 with h2 | h2
   ·exact .inl (by have := List.eq_nil_of_length_eq_zero h2; simp [this])
   ·exact .inr h2
  ·exact List.Nodup.sublist ((List.eraseIdx_sublist _ _).map _) h3
 ·exact h
theorem Good.over {s : LS} (h : Good s) : Good (endL s) := by
 obtain ⟨h1, h2, h3, h4, h5⟩ := h.may
 exact ⟨h.r1, h.r2, ⟨h1, .inl rfl, by simp [endL], h4, h5⟩, by simp [endL]⟩
end Go.Proofs.YthnjeejnnhadeaaGreatDoor.Lane

namespace Go.Proofs.YthnjeejnnhadeaaGreatDoor.Lane
instance : Inhabited LS := ⟨⟨0, [], [], 0, 0⟩⟩
def L0 : LS := ⟨0, [], [], 0, 0⟩
def lnOf (ss : List LS) (i : Nat) : LS := ss.getD i L0
theorem lnOf_mem {ss : List LS} {i : Nat} (h : i < ss.length) : lnOf ss i ∈ ss := by
 unfold lnOf
 rw [List.getD_eq_getElem?_getD, List.getElem?_eq_getElem h]
 exact List.getElem_mem h
theorem lnOf_set (ss : List LS) (i j : Nat) (s : LS) (h : i < ss.length) : lnOf (ss.set i s) j = if j = i then s else lnOf ss j := by
 unfold lnOf
 rw [List.getD_eq_getElem?_getD, List.getD_eq_getElem?_getD, List.getElem?_set]
 by_cases e : i = j
 ·subst e; simp [h]
 ·rw [if_neg e, if_neg (fun h => e h.symm)]
structure GoodP (ss : List LS) (cur : Nat) : Prop where
 n1 : 1 ≤ ss.length
 n2 : ss.length ≤ 9
 cu : cur < ss.length
 each : ∀ s ∈ ss, Good s
theorem GoodP.at {ss : List LS} {cur : Nat} (h : GoodP ss cur) {i : Nat} (hi : i < ss.length) : Good (lnOf ss i) := h.each _ (lnOf_mem hi)
theorem GoodP.set {ss : List LS} {cur : Nat} (h : GoodP ss cur) (i : Nat) {s : LS} (hs : Good s) {c : Nat} (hc : c < ss.length) : GoodP (ss.set i s) c :=
 ⟨by simpa using h.n1, by simpa using h.n2, by simpa using hc, fun x hx => by
  rcases List.mem_or_eq_of_mem_set hx with h1 | h1
  ·exact h.each x h1
  ·rw [h1]; exact hs⟩
theorem GoodP.map {ss : List LS} {cur : Nat} (h : GoodP ss cur) (f : LS → LS) (hf : ∀ s, Good s → Good (f s)) : GoodP (ss.map f) cur :=
 ⟨by simpa using h.n1, by simpa using h.n2, by simpa using h.cu, fun x hx => by
  obtain ⟨s, hs, rfl⟩ := List.mem_map.mp hx
  exact hf s (h.each s hs)⟩
def isP (n : Nat) (lane : Int) : Bool := decide (0 ≤ lane ∧ lane < (n : Int))
def putP (ss : List LS) (lane v : Int) : Int × List LS := if isP ss.length lane then ((putL (lnOf ss lane.toNat) v).1, ss.set lane.toNat (putL (lnOf ss lane.toNat) v).2) else (2, ss)
def dropP (ss : List LS) (lane : Int) : List LS := if isP ss.length lane then ss.set lane.toNat (dropL (lnOf ss lane.toNat)) else ss
def rnd (n cur k : Nat) : Nat := (cur + k) % n
def fstP (ss : List LS) (cur : Nat) : Nat → Nat → Option Nat
 | _, 0 => none
 | k, f + 1 => if (lnOf ss (rnd ss.length cur k)).vs = [] then fstP ss cur (k + 1) f else some (rnd ss.length cur k)
def takeP (ss : List LS) (cur : Nat) : (Int × Int × (Int × Int) × Bool × Int) × List LS × Nat :=
 match fstP ss cur 0 ss.length with
 | none => ((0, 0, (0, 0), false, 21), ss, cur)
 | some i => (((takeL (lnOf ss i)).1.1, (i : Int), (takeL (lnOf ss i)).1.2.1, (takeL (lnOf ss i)).1.2.2.1, (takeL (lnOf ss i)).1.2.2.2), ss.set i (takeL (lnOf ss i)).2, (i + 1) % ss.length)
theorem fstP_none {ss : List LS} {cur : Nat} : ∀ (f k : Nat), (∀ j, k ≤ j → j < k + f → (lnOf ss (rnd ss.length cur j)).vs = []) → fstP ss cur k f = none
 | 0, _, _ => rfl
 | f + 1, k, h => by
  unfold fstP
  rw [if_pos (h k (Nat.le_refl _) (by omega))]
  exact fstP_none f (k + 1) (fun j h1 h2 => h j (by omega) (by omega))
theorem fstP_some {ss : List LS} {cur m : Nat} (hm : (lnOf ss (rnd ss.length cur m)).vs ≠ []) : ∀ (f k : Nat), k ≤ m → m < k + f → (∀ j, k ≤ j → j < m → (lnOf ss (rnd ss.length cur j)).vs = []) → fstP ss cur k f = some (rnd ss.length cur m)
 | 0, k, h1, h2, _ => by omega
 | f + 1, k, h1, h2, h => by
  unfold fstP
  by_cases e : k = m
  ·subst e; rw [if_neg hm]
  ·rw [if_pos (h k (Nat.le_refl _) (by omega))]
   exact fstP_some hm f (k + 1) (by omega) (by omega) (fun j h3 h4 => h j (by omega) h4)
theorem takeP_none {ss : List LS} {cur : Nat} (h : ∀ j, j < ss.length → (lnOf ss (rnd ss.length cur j)).vs = []) : takeP ss cur = ((0, 0, (0, 0), false, 21), ss, cur) := by
 unfold takeP
 rw [fstP_none ss.length 0 (fun j _ h2 => h j (by omega))]
theorem takeP_some {ss : List LS} {cur m i : Nat} (hi : i = rnd ss.length cur m) (hm : m < ss.length) (hne : (lnOf ss i).vs ≠ []) (h : ∀ j, j < m → (lnOf ss (rnd ss.length cur j)).vs = []) :
  takeP ss cur = (((takeL (lnOf ss i)).1.1, (i : Int), (takeL (lnOf ss i)).1.2.1, (takeL (lnOf ss i)).1.2.2.1, (takeL (lnOf ss i)).1.2.2.2), ss.set i (takeL (lnOf ss i)).2, (i + 1) % ss.length) := by
 subst hi
 unfold takeP
 rw [fstP_some hne ss.length 0 (by omega) (by omega) (fun j _ h2 => h j h2)]
theorem takeP_cases (ss : List LS) (cur : Nat) : (∀ j, j < ss.length → (lnOf ss (rnd ss.length cur j)).vs = []) ∨ ∃ m, m < ss.length ∧ (lnOf ss (rnd ss.length cur m)).vs ≠ [] ∧ ∀ j, j < m → (lnOf ss (rnd ss.length cur j)).vs = [] := by
 have key : ∀ f, f ≤ ss.length → (∀ j, j < f → (lnOf ss (rnd ss.length cur j)).vs = []) ∨ ∃ m, m < ss.length ∧ (lnOf ss (rnd ss.length cur m)).vs ≠ [] ∧ ∀ j, j < m → (lnOf ss (rnd ss.length cur j)).vs = [] := by
  intro f
  induction f with
  | zero => intro _; exact .inl (fun j hj => by omega)
  | succ f ih =>
   intro hf
   rcases ih (by omega) with h | h
   ·by_cases e : (lnOf ss (rnd ss.length cur f)).vs = []
    ·refine .inl (fun j hj => ?_)
     by_cases ej : j = f
     ·subst ej; exact e
     ·exact h j (by omega)
    ·exact .inr ⟨f, by omega, e, h⟩
   ·exact .inr h
 exact key ss.length (Nat.le_refl _)
theorem rnd_lt {n cur k : Nat} (h : 0 < n) : rnd n cur k < n := Nat.mod_lt _ h
def anyP (ss : List LS) (p : Int) : Bool := ss.any (fun s => decide (0 ≤ idxL s.ws p))
def waitP (ss : List LS) (lane p v : Int) : Int × List LS :=
 if isP ss.length lane then (if anyP ss p then (8, ss) else ((waitL (lnOf ss lane.toNat) p v).1, ss.set lane.toNat (waitL (lnOf ss lane.toNat) p v).2)) else (2, ss)
def leaveP (ss : List LS) (p : Int) : Bool × List LS := (ss.any (fun s => (leaveL s p).1), ss.map (fun s => (leaveL s p).2))
def endP (ss : List LS) : List (Int × Int) × List LS := (ss.flatMap (·.ws), ss.map endL)
theorem GoodP.put {ss : List LS} {cur : Nat} (h : GoodP ss cur) (lane v : Int) : GoodP (putP ss lane v).2 cur := by
 unfold putP
 split
 ·rename_i hi
  have hi : 0 ≤ lane ∧ lane < (ss.length : Int) := by simpa [isP] using hi
  exact h.set _ ((h.at (by omega)).put v) h.cu
 ·exact h
theorem GoodP.drop {ss : List LS} {cur : Nat} (h : GoodP ss cur) (lane : Int) : GoodP (dropP ss lane) cur := by
 unfold dropP
 split
 ·rename_i hi
  have hi : 0 ≤ lane ∧ lane < (ss.length : Int) := by simpa [isP] using hi
  exact h.set _ (h.at (by omega)).drop h.cu
 ·exact h
theorem GoodP.take {ss : List LS} {cur : Nat} (h : GoodP ss cur) : GoodP (takeP ss cur).2.1 (takeP ss cur).2.2 := by
 have h1 := h.n1
 rcases takeP_cases ss cur with hn | ⟨m, hm, hne, hb⟩
 ·rw [takeP_none hn]; exact h
 ·rw [takeP_some rfl hm hne hb]
  exact h.set _ (h.at (rnd_lt (by omega))).take (Nat.mod_lt _ (by omega))
theorem GoodP.wait {ss : List LS} {cur : Nat} (h : GoodP ss cur) (lane : Int) {p : Int} (hp : Fit64 p) (v : Int) : GoodP (waitP ss lane p v).2 cur := by
 unfold waitP
 split
 ·rename_i hi
  have hi : 0 ≤ lane ∧ lane < (ss.length : Int) := by simpa [isP] using hi
  split
  ·exact h
  ·exact h.set _ ((h.at (by omega)).wait hp v) h.cu
 ·exact h
theorem GoodP.leave {ss : List LS} {cur : Nat} (h : GoodP ss cur) (p : Int) : GoodP (leaveP ss p).2 cur := h.map _ (fun _ hs => hs.leave p)
theorem GoodP.over {ss : List LS} {cur : Nat} (h : GoodP ss cur) : GoodP (endP ss).2 cur := h.map _ (fun _ hs => hs.over)
def mapTo (f : LS → LS) (i : Nat) (ss : List LS) : List LS := (ss.take i).map f ++ ss.drop i
theorem mapTo_len (f : LS → LS) (i : Nat) (ss : List LS) : (mapTo f i ss).length = ss.length := by simp [mapTo]; omega
theorem mapTo_zero (f : LS → LS) (ss : List LS) : mapTo f 0 ss = ss := by simp [mapTo]
theorem mapTo_all (f : LS → LS) {i : Nat} {ss : List LS} (h : ss.length ≤ i) : mapTo f i ss = ss.map f := by simp [mapTo, List.take_of_length_le h, List.drop_of_length_le h]
theorem mapTo_at (f : LS → LS) {i : Nat} {ss : List LS} (h : i < ss.length) : lnOf (mapTo f i ss) i = lnOf ss i := by
 unfold lnOf mapTo
 rw [List.getD_eq_getElem?_getD, List.getD_eq_getElem?_getD, List.getElem?_append_right (by simp; omega)]
 simp
 rw [show i - min i ss.length = 0 by omega, Nat.add_zero]
theorem mapTo_set (f : LS → LS) {i : Nat} {ss : List LS} (h : i < ss.length) : (mapTo f i ss).set i (f (lnOf ss i)) = mapTo f (i + 1) ss := by
 unfold lnOf mapTo
 rw [List.set_append_right _ _ (by simp; omega), List.take_succ_eq_append_getElem h, List.map_append, List.append_assoc]
 have e : i - (List.map f (List.take i ss)).length = 0 := by simp; omega
 rw [e, List.drop_eq_getElem_cons h, List.getD_eq_getElem?_getD, List.getElem?_eq_getElem h]
 rfl
end Go.Proofs.YthnjeejnnhadeaaGreatDoor.Lane
