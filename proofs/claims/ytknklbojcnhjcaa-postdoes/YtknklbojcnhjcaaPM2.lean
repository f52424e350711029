/- Each lane is served: the mathematics. -/
import Derived.Test.YtknklbojcnhjcaaPM1
namespace Go.Proofs.Ytknklbojcnhjcaa

/-- How far a lane is from the cursor. -/
def dst (n cur q : Nat) : Nat := (q + n - cur) % n
theorem mod2 {k n : Nat} (h : k < 2 * n) : k % n = if k < n then k else k - n := by
  split
  · rename_i h1; exact Nat.mod_eq_of_lt h1
  · rename_i h1
    rw [Nat.mod_eq_sub_mod (by omega), Nat.mod_eq_of_lt (by omega)]
theorem dst_lt {n cur q : Nat} (hn : 0 < n) : dst n cur q < n := Nat.mod_lt _ hn
theorem rnd_dst {n cur q : Nat} (hc : cur < n) (hq : q < n) : rnd n cur (dst n cur q) = q := by
  have hd : dst n cur q < n := dst_lt (by omega)
  unfold rnd
  have h2 : dst n cur q = if q + n - cur < n then q + n - cur else q + n - cur - n := mod2 (by omega)
  rw [mod2 (by omega)]
  split at h2 <;> split <;> omega
theorem dst_rnd {n cur m : Nat} (hc : cur < n) (hm : m < n) : dst n cur (rnd n cur m) = m := by
  have h1 : rnd n cur m = if cur + m < n then cur + m else cur + m - n := mod2 (by omega)
  unfold dst
  rw [mod2 (by split at h1 <;> omega)]
  split at h1 <;> split <;> omega
theorem dst_step {n cur q m : Nat} (hc : cur < n) (hq : q < n) (hm : m < dst n cur q) : dst n ((rnd n cur m + 1) % n) q < dst n cur q := by
  have hd : dst n cur q < n := dst_lt (by omega)
  have h1 : rnd n cur m = if cur + m < n then cur + m else cur + m - n := mod2 (by omega)
  have h2 : dst n cur q = if q + n - cur < n then q + n - cur else q + n - cur - n := mod2 (by omega)
  have h3 : (rnd n cur m + 1) % n = if rnd n cur m + 1 < n then rnd n cur m + 1 else rnd n cur m + 1 - n := mod2 (by split at h1 <;> omega)
  have h4 : (rnd n cur m + 1) % n < n := Nat.mod_lt _ (by omega)
  have h5 : dst n ((rnd n cur m + 1) % n) q = if q + n - (rnd n cur m + 1) % n < n then q + n - (rnd n cur m + 1) % n else q + n - (rnd n cur m + 1) % n - n := mod2 (by omega)
  split at h1 <;> split at h2 <;> split at h3 <;> split at h5 <;> omega

/-- Lanes in which nobody waits; the one of number q has these messages. -/
structure FairS (n : Nat) (ss : List LS) (cur q : Nat) (vs : List Int) : Prop where
  len : ss.length = n
  good : GoodP ss cur
  ws : ∀ s ∈ ss, s.ws = []
  ql : q < n
  at' : (lnOf ss q).vs = vs

theorem FairS.set {n : Nat} {ss : List LS} {cur q : Nat} {vs : List Int} (h : FairS n ss cur q vs) {i : Nat} (hi : i < n) {s : LS} (hs : Good s) (hw : s.ws = []) {c : Nat} (hc : c < n) {vs' : List Int} (hv : vs' = if q = i then s.vs else vs) : FairS n (ss.set i s) c q vs' := by
  have hl := h.len
  refine ⟨by rw [List.length_set, hl], h.good.set i hs (by omega), fun x hx => ?_, h.ql, ?_⟩
  · rcases List.mem_or_eq_of_mem_set hx with h1 | h1
    · exact h.ws x h1
    · rw [h1]; exact hw
  · rw [lnOf_set _ _ _ _ (by omega), hv]
    split
    · rfl
    · exact h.at'
theorem FairS.put {n : Nat} {ss : List LS} {cur q : Nat} {vs : List Int} (h : FairS n ss cur q vs) {lane : Int} (hl : lane ≠ q) (v : Int) : FairS n (putP ss lane v).2 cur q vs := by
  unfold putP
  split
  · rename_i hi
    have hi : 0 ≤ lane ∧ lane < (ss.length : Int) := by simpa [isP] using hi
    have hlen := h.len
    have hg := h.good.at (i := lane.toNat) (by omega)
    refine h.set (by omega) (hg.put v) ?_ (by have := h.good.cu; omega) (by rw [if_neg (by omega)])
    rw [(put_ws _ v).1]
    exact h.ws _ (lnOf_mem (by omega))
  · exact h

theorem takeL_alone {s : LS} {v : Int} {r : List Int} (h1 : s.vs = v :: r) (h2 : s.ws = []) : takeL s = ((v, (0, 0), false, 0), { s with vs := r, tk := moreL s.tk }) := by
  unfold takeL
  rw [h1, h2]

theorem FairS.take {n : Nat} {ss : List LS} {cur q : Nat} {v : Int} {r : List Int} (h : FairS n ss cur q (v :: r)) :
    ∃ (x : Nat) (v' : Int) (ss' : List LS) (cur' : Nat), takeP ss cur = ((v', (x : Int), (0, 0), false, 0), ss', cur') ∧ x < n ∧ ((x = q ∧ v' = v ∧ FairS n ss' cur' q r) ∨ (x ≠ q ∧ FairS n ss' cur' q (v :: r) ∧ dst n cur' q < dst n cur q)) := by
  have hl := h.len
  have hn : 0 < n := by have := h.ql; omega
  have hc : cur < n := by have := h.good.cu; omega
  rcases takeP_cases ss cur with hnone | ⟨m, hm, hne, hb⟩
  · exfalso
    have := hnone (dst n cur q) (by rw [hl]; exact dst_lt hn)
    rw [hl, rnd_dst hc h.ql, h.at'] at this
    cases this
  · have hx : rnd ss.length cur m < n := by rw [hl]; exact rnd_lt hn
    obtain ⟨x, hxe⟩ : ∃ x, rnd ss.length cur m = x := ⟨_, rfl⟩
    have ht := takeP_some (i := x) hxe.symm hm (by rw [← hxe]; exact hne) hb
    rw [hxe] at hne hx
    obtain ⟨u, t, hut⟩ : ∃ u t, (lnOf ss x).vs = u :: t := by
      cases hv : (lnOf ss x).vs with
      | nil => exact absurd hv hne
      | cons u t => exact ⟨u, t, rfl⟩
    have hws : (lnOf ss x).ws = [] := h.ws _ (lnOf_mem (by omega))
    have hgt := (h.good.at (i := x) (by omega)).take
    have hta := takeL_alone hut hws
    rw [hta] at ht hgt
    simp only at ht hgt
    have hcl : (x + 1) % ss.length < n := by rw [hl]; exact Nat.mod_lt _ hn
    refine ⟨x, u, _, _, ht, hx, ?_⟩
    by_cases e : x = q
    · left
      subst e
      rw [h.at'] at hut
      cases hut
      exact ⟨rfl, rfl, h.set hx hgt hws hcl (by simp)⟩
    · right
      refine ⟨e, h.set hx hgt hws hcl (by rw [if_neg (fun h => e h.symm)]), ?_⟩
      have hle : m < dst n cur q := by
        rcases Nat.lt_or_ge m (dst n cur q) with h1 | h1
        · exact h1
        · exfalso
          by_cases e2 : m = dst n cur q
          · rw [e2, hl, rnd_dst hc h.ql] at hxe
            exact e hxe.symm
          · have := hb (dst n cur q) (by omega)
            rw [hl, rnd_dst hc h.ql, h.at'] at this
            cases this
      rw [← hxe, hl]
      exact dst_step hc h.ql hle
theorem FairS.few {n : Nat} {ss : List LS} {cur q : Nat} {vs : List Int} (h : FairS n ss cur q vs) (N : Nat) : ∀ s ∈ ss, s.ws.length ≤ N := fun s hs => by rw [h.ws s hs]; simp
end Go.Proofs.Ytknklbojcnhjcaa
