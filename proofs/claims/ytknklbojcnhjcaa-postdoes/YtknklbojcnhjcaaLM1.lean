/- A lane, plainly: how it stands, and what each call makes of it. -/
import Derived.KernelRfl
namespace Go.Proofs.Ytknklbojcnhjcaa

/-- How a lane stands: its room, its messages, who waits (a number, a message), what was taken, what was dropped. -/
structure LS where
  room : Nat
  vs : List Int
  ws : List (Int × Int)
  tk : Int
  dr : Int

def moreL (n : Int) : Int := if 65535 ≤ n then 65535 else n + 1
theorem moreL_up {n : Int} (h : 65535 ≤ n) : moreL n = 65535 := by unfold moreL; rw [if_pos h]
theorem moreL_on {n : Int} (h : n < 65535) : moreL n = n + 1 := by unfold moreL; rw [if_neg (by omega)]
theorem moreL_le {n : Int} (h : 0 ≤ n ∧ n ≤ 65535) : 0 ≤ moreL n ∧ moreL n ≤ 65535 := by unfold moreL; split <;> omega

/-- Where a process waits; -1: nowhere. -/
def idxL : List (Int × Int) → Int → Int
  | [], _ => -1
  | w :: ws, p => if w.1 = p then 0 else if idxL ws p < 0 then -1 else idxL ws p + 1

theorem idxL_none {ws : List (Int × Int)} {p : Int} (h : ∀ j, j < ws.length → (ws.getD j (0, 0)).1 ≠ p) : idxL ws p = -1 := by
  induction ws with
  | nil => rfl
  | cons w ws ih =>
    unfold idxL
    rw [if_neg (by simpa using h 0 (by simp)), ih (fun j hj => by simpa using h (j + 1) (by simp; omega))]
    rfl
theorem idxL_some {ws : List (Int × Int)} {p : Int} {i : Nat} (hi : i < ws.length) (h : (ws.getD i (0, 0)).1 = p) (h0 : ∀ j, j < i → (ws.getD j (0, 0)).1 ≠ p) : idxL ws p = i := by
  induction ws generalizing i with
  | nil => simp at hi
  | cons w ws ih =>
    unfold idxL
    cases i with
    | zero => rw [if_pos (by simpa using h)]; rfl
    | succ i =>
      have := ih (i := i) (by simpa using hi) (by simpa using h) (fun j hj => by simpa using h0 (j + 1) (by omega))
      rw [if_neg (by simpa using h0 0 (by omega)), this, if_neg (by omega)]
      omega
theorem idxL_cases (ws : List (Int × Int)) (p : Int) : (idxL ws p = -1 ∧ ∀ w ∈ ws, w.1 ≠ p) ∨ ∃ i : Nat, idxL ws p = i ∧ i < ws.length := by
  induction ws with
  | nil => exact .inl ⟨rfl, by simp⟩
  | cons w ws ih =>
    unfold idxL
    by_cases h : w.1 = p
    · rw [if_pos h]; exact .inr ⟨0, rfl, by simp⟩
    · rw [if_neg h]
      rcases ih with ⟨h1, h2⟩ | ⟨i, h1, h2⟩
      · refine .inl ⟨by rw [h1]; rfl, fun x hx => ?_⟩
        rcases List.mem_cons.mp hx with rfl | hx
        · exact h
        · exact h2 x hx
      · refine .inr ⟨i + 1, by rw [h1, if_neg (by omega)]; omega, by simp; omega⟩

def Fit64 (x : Int) : Prop := -9223372036854775808 ≤ x ∧ x ≤ 9223372036854775807

/-- May a lane stand so? -/
def MayL (room : Int) (vs : List Int) (ws : List (Int × Int)) (tk dr : Int) : Prop :=
  (vs.length : Int) ≤ room ∧ (ws.length = 0 ∨ room ≤ (vs.length : Int)) ∧ (ws.map (·.1)).Nodup ∧ (0 ≤ tk ∧ tk ≤ 65535) ∧ (0 ≤ dr ∧ dr ≤ 65535)

/-- It stands as it may. -/
structure Good (s : LS) : Prop where
  r1 : 1 ≤ s.room
  r2 : s.room ≤ 64
  may : MayL s.room s.vs s.ws s.tk s.dr
  fit : ∀ w ∈ s.ws, Fit64 w.1

theorem Good.len {s : LS} (h : Good s) : s.vs.length ≤ s.room := by have := h.may.1; omega

def putL (s : LS) (v : Int) : Int × LS := if s.vs.length = s.room then (19, s) else (0, { s with vs := s.vs ++ [v] })
def dropL (s : LS) : LS := { s with dr := moreL s.dr }
def takeL (s : LS) : (Int × (Int × Int) × Bool × Int) × LS :=
  match s.vs, s.ws with
  | [], _ => ((0, (0, 0), false, 21), s)
  | v :: r, [] => ((v, (0, 0), false, 0), { s with vs := r, tk := moreL s.tk })
  | v :: r, w :: q => ((v, w, true, 0), { s with vs := r ++ [w.2], ws := q, tk := moreL s.tk })
def waitL (s : LS) (p v : Int) : Int × LS := if s.vs.length = s.room then (if 0 ≤ idxL s.ws p then (8, s) else (0, { s with ws := s.ws ++ [(p, v)] })) else (20, s)
def leaveL (s : LS) (p : Int) : Bool × LS := if 0 ≤ idxL s.ws p then (true, { s with ws := s.ws.eraseIdx (idxL s.ws p).toNat }) else (false, s)
def endL (s : LS) : LS := { s with ws := [] }

theorem Good.put {s : LS} (h : Good s) (v : Int) : Good (putL s v).2 := by
  unfold putL
  split
  · exact h
  · rename_i hne
    have hl := h.len
    obtain ⟨h1, h2, h3, h4, h5⟩ := h.may
    refine ⟨h.r1, h.r2, ⟨?_, ?_, h3, h4, h5⟩, h.fit⟩
    · simp; omega
    · rcases h2 with h2 | h2
      · exact .inl h2
      · exact absurd (by omega : s.vs.length = s.room) hne
theorem Good.drop {s : LS} (h : Good s) : Good (dropL s) := by
  obtain ⟨h1, h2, h3, h4, h5⟩ := h.may
  exact ⟨h.r1, h.r2, ⟨h1, h2, h3, h4, moreL_le h5⟩, h.fit⟩
theorem Good.take {s : LS} (h : Good s) : Good (takeL s).2 := by
  obtain ⟨h1, h2, h3, h4, h5⟩ := h.may
  have hl := h.len
  unfold takeL
  split
  · exact h
  · rename_i v r e1 e2
    rw [e1] at h1
    refine ⟨h.r1, h.r2, ⟨?_, ?_, h3, moreL_le h4, h5⟩, h.fit⟩
    · simp at h1 ⊢; omega
    · exact .inl (by simp [e2])
  · rename_i v r w q e1 e2
    rw [e1] at h1 h2
    rw [e2] at h2 h3
    refine ⟨h.r1, h.r2, ⟨?_, ?_, ?_, moreL_le h4, h5⟩, fun x hx => h.fit x (by rw [e2]; simp at hx ⊢; exact .inr hx)⟩
    · simp at h1 ⊢; omega
    · refine .inr ?_
      simp at h2 ⊢
      omega
    · simp at h3 ⊢
      exact h3.2
theorem Good.wait {s : LS} (h : Good s) {p : Int} (hp : Fit64 p) (v : Int) : Good (waitL s p v).2 := by
  unfold waitL
  split
  · rename_i hf
    split
    · exact h
    · rename_i hi
      obtain ⟨h1, h2, h3, h4, h5⟩ := h.may
      rcases idxL_cases s.ws p with ⟨_, hn⟩ | ⟨i, hi', _⟩
      · refine ⟨h.r1, h.r2, ⟨h1, .inr (by simp [hf]), ?_, h4, h5⟩, fun x hx => ?_⟩
        · simp only [List.map_append, List.map_cons, List.map_nil]
          rw [List.nodup_append]
          refine ⟨h3, by simp, fun a ha b hb => ?_⟩
          obtain ⟨w, hw, rfl⟩ := List.mem_map.mp ha
          simp at hb
          rw [hb]
          exact hn w hw
        · simp at hx
          rcases hx with hx | rfl
          · exact h.fit x hx
          · exact hp
      · omega
  · exact h
theorem Good.leave {s : LS} (h : Good s) (p : Int) : Good (leaveL s p).2 := by
  unfold leaveL
  split
  · obtain ⟨h1, h2, h3, h4, h5⟩ := h.may
    refine ⟨h.r1, h.r2, ⟨h1, ?_, ?_, h4, h5⟩, fun x hx => h.fit x (List.mem_of_mem_eraseIdx hx)⟩
    · rcases h2 with h2 | h2
      · exact .inl (by have := List.eq_nil_of_length_eq_zero h2; simp [this])
      · exact .inr h2
    · exact List.Nodup.sublist ((List.eraseIdx_sublist _ _).map _) h3
  · exact h
theorem Good.over {s : LS} (h : Good s) : Good (endL s) := by
  obtain ⟨h1, h2, h3, h4, h5⟩ := h.may
  exact ⟨h.r1, h.r2, ⟨h1, .inl rfl, by simp [endL], h4, h5⟩, by simp [endL]⟩

theorem put_ws (s : LS) (v : Int) : (putL s v).2.ws = s.ws ∧ (putL s v).2.room = s.room := by unfold putL; split <;> exact ⟨rfl, rfl⟩
theorem take_ws (s : LS) : (takeL s).2.ws.length ≤ s.ws.length ∧ (takeL s).2.room = s.room := by
  unfold takeL
  split
  · exact ⟨Nat.le_refl _, rfl⟩
  · rename_i e; simp
  · rename_i e; simp [e]
theorem wait_ws (s : LS) (p v : Int) : (waitL s p v).2.ws.length ≤ s.ws.length + 1 ∧ (waitL s p v).2.room = s.room := by
  unfold waitL
  split
  · split <;> simp
  · simp
theorem leave_ws (s : LS) (p : Int) : (leaveL s p).2.ws.length ≤ s.ws.length ∧ (leaveL s p).2.room = s.room := by
  unfold leaveL
  split
  · exact ⟨List.length_eraseIdx_le _ _, rfl⟩
  · exact ⟨Nat.le_refl _, rfl⟩
end Go.Proofs.Ytknklbojcnhjcaa
