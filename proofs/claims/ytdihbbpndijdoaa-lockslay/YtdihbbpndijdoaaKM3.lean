/- How Lay looks at what is handed in. -/
import Derived.Test.YtdihbbpndijdoaaKM1b
namespace Go.Proofs.Ytdihbbpndijdoaa

/-- One who waits that may not: of those ahead d, and of the locks ahead qs. -/
def badP (qs : Qs) (owner : Int) (d : List Int) (p : Int) : Bool := (wt qs p).isSome || decide (p ∈ d) || decide (p < 0) || decide (p = owner)
def addQ (qs : Qs) (owner : Int) : List Int → List Int → Bool
  | _, [] => true
  | d, p :: r => if badP qs owner d p = true then false else addQ qs owner (d ++ [p]) r
def addOk (qs : Qs) (owner : Int) (q : List Int) : Bool := if owner < -1 ∨ (owner = -1 ∧ 0 < q.length) then false else addQ qs owner [] q
def layF : Qs → List Int → Qs → Bool
  | pre, o :: os, q :: qs => if addOk pre o q = true then layF (pre ++ [q]) os qs else false
  | _, _, _ => true
def layE (os : List Int) (qs : Qs) : Int := if 8 < os.length ∨ 8 < qs.length then 3 else if os.length ≠ qs.length then 4 else if layF [] os qs = true then 0 else 4

theorem addQ_drop {qs : Qs} {owner : Int} {q : List Int} {k : Nat} (hk : k < q.length) : addQ qs owner (q.take k) (q.drop k) = if badP qs owner (q.take k) (q.getD k 0) = true then false else addQ qs owner (q.take (k + 1)) (q.drop (k + 1)) := by
  rw [List.drop_eq_getElem_cons hk, addQ]
  have e : q.getD k 0 = q[k] := by rw [List.getD_eq_getElem?_getD, List.getElem?_eq_getElem hk]; rfl
  rw [e, List.take_succ_eq_append_getElem hk]
theorem layF_drop {os : List Int} {qs : Qs} {k : Nat} (hk : k < os.length) (hl : os.length = qs.length) : layF (qs.take k) (os.drop k) (qs.drop k) = if addOk (qs.take k) (oAt os k) (qAt qs k) = true then layF (qs.take (k + 1)) (os.drop (k + 1)) (qs.drop (k + 1)) else false := by
  have hk2 : k < qs.length := by omega
  rw [List.drop_eq_getElem_cons hk, List.drop_eq_getElem_cons hk2, layF]
  have e : oAt os k = os[k] := by unfold oAt; rw [List.getD_eq_getElem?_getD, List.getElem?_eq_getElem hk]; rfl
  have e2 : qAt qs k = qs[k] := by unfold qAt; rw [List.getD_eq_getElem?_getD, List.getElem?_eq_getElem hk2]; rfl
  rw [e, e2, List.take_succ_eq_append_getElem hk2]
theorem layF_end {os : List Int} {qs pre : Qs} {k : Nat} (hk : os.length ≤ k) : layF pre (os.drop k) (qs.drop k) = true := by
  rw [List.drop_of_length_le hk]
  unfold layF
  cases qs.drop k <;> rfl

/-- Those who were looked at are good. -/
def GoodD (qs : Qs) (owner : Int) (d : List Int) : Prop := d.Nodup ∧ ∀ p ∈ d, 0 ≤ p ∧ p ≠ owner ∧ ∀ i, p ∉ qAt qs i
theorem GoodD.nil (qs : Qs) (owner : Int) : GoodD qs owner [] := ⟨List.nodup_nil, fun _ h => absurd h List.not_mem_nil⟩
theorem badP_no {qs : Qs} {owner : Int} {d : List Int} {p : Int} (h : badP qs owner d p = false) : wt qs p = none ∧ p ∉ d ∧ 0 ≤ p ∧ p ≠ owner := by
  unfold badP at h
  simp only [Bool.or_eq_false_iff, decide_eq_false_iff_not, Option.isSome_eq_false_iff, Option.isNone_iff_eq_none] at h
  exact ⟨h.1.1.1, h.1.1.2, by omega, h.2⟩
theorem GoodD.push {qs : Qs} {owner : Int} {d : List Int} {p : Int} (h : GoodD qs owner d) (hb : badP qs owner d p = false) : GoodD qs owner (d ++ [p]) := by
  obtain ⟨h1, h2, h3, h4⟩ := badP_no hb
  refine ⟨?_, fun x hx => ?_⟩
  · rw [List.nodup_append]
    refine ⟨h.1, by simp, fun a ha b hb e => ?_⟩
    simp at hb
    subst hb
    subst e
    exact h2 ha
  · rcases List.mem_append.1 hx with h5 | h5
    · exact h.2 x h5
    · simp at h5
      subst h5
      exact ⟨h3, h4, wt_none.1 h1⟩
theorem qAt_app {qs : Qs} {q : List Int} {j : Nat} : qAt (qs ++ [q]) j = if j < qs.length then qAt qs j else if j = qs.length then q else [] := by
  unfold qAt
  rw [List.getD_eq_getElem?_getD, List.getD_eq_getElem?_getD]
  split
  · rename_i h; rw [List.getElem?_append_left h]
  · rename_i h
    rw [List.getElem?_append_right (by omega)]
    split
    · rename_i h2; subst h2; simp
    · rename_i h2
      rw [List.getElem?_eq_none (by simp; omega)]; rfl
theorem oAt_app {os : List Int} {o : Int} {j : Nat} : oAt (os ++ [o]) j = if j < os.length then oAt os j else if j = os.length then o else -1 := by
  unfold oAt
  rw [List.getD_eq_getElem?_getD, List.getD_eq_getElem?_getD]
  split
  · rename_i h; rw [List.getElem?_append_left h]
  · rename_i h
    rw [List.getElem?_append_right (by omega)]
    split
    · rename_i h2; subst h2; simp
    · rename_i h2
      rw [List.getElem?_eq_none (by simp; omega)]; rfl
theorem mem_app {qs : Qs} {q : List Int} {j : Nat} {x : Int} : x ∈ qAt (qs ++ [q]) j ↔ x ∈ qAt qs j ∨ (x ∈ q ∧ j = qs.length) := by
  rw [qAt_app]
  constructor
  · intro h
    split at h
    · exact .inl h
    · split at h
      · exact .inr ⟨h, by assumption⟩
      · cases h
  · rintro (h | ⟨h1, h2⟩)
    · rw [if_pos (qAt_lt h)]; exact h
    · rw [if_neg (by omega), if_pos h2]; exact h1
theorem GoodL.app {os : List Int} {qs : Qs} (h : GoodL os qs) (h8 : os.length < 8) {o : Int} (ho : -1 ≤ o ∧ o ≤ 9223372036854775807) {q : List Int} (hq : GoodD qs o q) (hf : ∀ p ∈ q, p ≤ 9223372036854775807) : GoodL (os ++ [o]) (qs ++ [q]) := by
  refine ⟨by simp [h.n], by simp; omega, fun x hx => ?_, fun i p hp => ?_, fun i => ?_, fun i j p hi hj => ?_⟩
  · rcases List.mem_append.1 hx with h1 | h1
    · exact h.own x h1
    · simp at h1; rw [h1]; exact ho
  · rcases mem_app.1 hp with h1 | h1
    · exact h.wai i p h1
    · exact ⟨(hq.2 p h1.1).1, hf p h1.1⟩
  · rw [qAt_app]
    split
    · exact h.nd i
    · split
      · exact hq.1
      · exact List.nodup_nil
  · rcases mem_app.1 hi with h1 | h1 <;> rcases mem_app.1 hj with h2 | h2
    · exact h.once i j p h1 h2
    · exact absurd h1 ((hq.2 p h2.1).2.2 i)
    · exact absurd h2 ((hq.2 p h1.1).2.2 j)
    · rw [h1.2, h2.2]
theorem wtI_app {os : List Int} {qs : Qs} (h : GoodL os qs) {o : Int} {q : List Int} (hq : GoodD qs o q) (x : Int) : wtI (qs ++ [q]) x = if x ∈ q then some (qs.length : Int) else wtI qs x := by
  have hO : ∀ i j p, p ∈ qAt (qs ++ [q]) i → p ∈ qAt (qs ++ [q]) j → i = j := fun i j p hi hj => by
    rcases mem_app.1 hi with h1 | h1 <;> rcases mem_app.1 hj with h2 | h2
    · exact h.once i j p h1 h2
    · exact absurd h1 ((hq.2 p h2.1).2.2 i)
    · exact absurd h2 ((hq.2 p h1.1).2.2 j)
    · rw [h1.2, h2.2]
  by_cases e : x ∈ q
  · rw [if_pos e]
    exact wtI_some hO (mem_app.2 (.inr ⟨e, rfl⟩))
  · rw [if_neg e]
    cases hw : wt qs x with
    | none =>
      have := wt_none.1 hw
      rw [wtI_none this]
      refine wtI_none (fun j hj => ?_)
      rcases mem_app.1 hj with h1 | h1
      · exact this j h1
      · exact e h1.1
    | some j =>
      have := (wt_some h.once).1 hw
      rw [wtI_some h.once this]
      exact wtI_some hO (mem_app.2 (.inl this))
theorem GoodL.nil : GoodL [] [] := ⟨rfl, by simp, fun _ h => absurd h List.not_mem_nil, fun i p h => by simp [qAt] at h, fun i => by simp [qAt], fun i j p h => by simp [qAt] at h⟩
end Go.Proofs.Ytdihbbpndijdoaa
