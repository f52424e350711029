/- Where everybody takes locks above all that they hold. -/
import Derived.Test.YtdihbbpndijdoaaKM3
namespace Go.Proofs.Ytdihbbpndijdoaa

/-- Who waits holds only locks below; a lock that nobody holds nobody waits for. -/
structure Rise (os : List Int) (qs : Qs) : Prop where
  up : ∀ i p, p ∈ qAt qs i → ∀ j, oAt os j = p → j < i
  free : ∀ i, oAt os i = -1 → qAt qs i = []
theorem qAt_replicate (n i : Nat) : qAt (List.replicate n []) i = [] := by
  unfold qAt
  rw [List.getD_eq_getElem?_getD, List.getElem?_replicate]
  split <;> rfl
theorem Rise.new (n : Nat) : Rise (List.replicate n (-1)) (List.replicate n []) :=
  ⟨fun i p hp => (by rw [qAt_replicate] at hp; cases hp), fun i _ => qAt_replicate n i⟩
theorem Rise.hand {os : List Int} {qs : Qs} (h : Rise os qs) (hG : GoodL os qs) (i : Nat) : Rise (handO os qs i) (handQ qs i) := by
  have hsub : ∀ j p, p ∈ qAt (handQ qs i) j → p ∈ qAt qs j := fun j p hp => by
    unfold handQ at hp
    rw [qAt_set] at hp
    split at hp
    · rename_i hc; rw [← hc.1]; exact List.mem_of_mem_tail hp
    · exact hp
  refine ⟨fun j p hp l hl => ?_, fun j hj => ?_⟩
  · have hp' := hsub j p hp
    unfold handO at hl
    rw [oAt_set] at hl
    split at hl
    · rename_i hc
      exfalso
      have hp0 := (hG.wai j p hp').1
      cases hq : qAt qs i with
      | nil => rw [hq] at hl; simp at hl; omega
      | cons x r =>
        rw [hq] at hl
        simp at hl
        subst hl
        have hx : x ∈ qAt qs i := by rw [hq]; exact List.mem_cons_self
        have hij := hG.once i j x hx hp'
        subst hij
        unfold handQ at hp
        rw [qAt_set] at hp
        have hnd := hG.nd i
        rw [hq] at hp hnd
        split at hp
        · exact (List.nodup_cons.1 hnd).1 hp
        · rename_i hc2
          exact hc2 ⟨rfl, qAt_lt hx⟩
    · exact h.up j p hp' l hl
  · unfold handO at hj
    rw [oAt_set] at hj
    unfold handQ
    rw [qAt_set]
    split at hj
    · rename_i hc
      have hcl : i < qs.length := by rw [hG.n]; exact hc.2
      rw [if_pos ⟨hc.1, hcl⟩]
      cases hq : qAt qs i with
      | nil => rfl
      | cons x r =>
        exfalso
        rw [hq] at hj
        simp at hj
        have := (hG.wai i x (by rw [hq]; exact List.mem_cons_self)).1
        omega
    · have hf := h.free j hj
      split
      · rename_i hc
        rw [hc.1, hf]; rfl
      · exact hf
theorem Rise.less {os : List Int} {qs qs' : Qs} (h : Rise os qs) (hs : ∀ i p, p ∈ qAt qs' i → p ∈ qAt qs i) : Rise os qs' :=
  ⟨fun i p hp => h.up i p (hs i p hp), fun i hi => by
    have := h.free i hi
    rw [List.eq_nil_iff_forall_not_mem]
    intro x hx
    have := hs i x hx
    rw [h.free i hi] at this
    cases this⟩
theorem away_sub (qs : Qs) (p : Int) : ∀ i x, x ∈ qAt (awayQ qs p) i → x ∈ qAt qs i := fun i x hx => by
  unfold awayQ at hx
  split at hx
  · unfold leaveQ at hx
    rw [qAt_set] at hx
    split at hx
    · rename_i hc; rw [← hc.1]; exact (List.mem_filter.1 hx).1
    · exact hx
  · exact hx
theorem Rise.endF {os : List Int} {qs : Qs} (h : Rise os qs) (hG : GoodL os qs) (l : List Int) (out : List (Int × Int)) : Rise (endF l os qs out).1 (endF l os qs out).2.1 := by
  induction l generalizing os qs out with
  | nil => exact h
  | cons i r ih => exact ih (h.hand hG _) (hG.hand _) _
theorem Rise.end {os : List Int} {qs : Qs} (h : Rise os qs) (hG : GoodL os qs) (p : Int) : Rise (endA os qs p).1 (endA os qs p).2.1 := (h.less (away_sub qs p)).endF (hG.away p) _ _
theorem Rise.give {os : List Int} {qs : Qs} (h : Rise os qs) (hG : GoodL os qs) (lock p : Int) : Rise (giveO os qs lock p) (giveQ os qs lock p) := by
  unfold giveO giveQ
  split
  · exact h
  · split
    · exact h.hand hG _
    · exact h
theorem Rise.take {os : List Int} {qs : Qs} (h : Rise os qs) (lock p : Int) (hh : ∀ j, oAt os j = p → 0 ≤ p → (j : Int) < lock) : Rise (takeO os qs lock p) (takeQ os qs lock p) := by
  by_cases h1 : mayE os.length lock p = 0
  · obtain ⟨i, rfl, hi, hp0⟩ := mayE_zero h1
    by_cases h2 : wt qs p = none
    · have hn := wt_none.1 h2
      by_cases h3 : oAt os i = p
      · obtain ⟨-, e2, e3⟩ := take_has h1 h2 h3
        rw [e2, e3]; exact h
      · by_cases h4 : oAt os i = -1
        · obtain ⟨-, e2, e3⟩ := take_free h1 h2 h4
          rw [e2, e3]
          refine ⟨fun j q hq l hl => ?_, fun j hj => ?_⟩
          · rw [oAt_set] at hl
            split at hl
            · subst hl; exact absurd hq (hn j)
            · exact h.up j q hq l hl
          · rw [oAt_set] at hj
            split at hj
            · omega
            · exact h.free j hj
        · obtain ⟨-, e2, e3⟩ := take_queue h1 h2 h3 h4
          rw [e2, e3]
          refine ⟨fun j q hq l hl => ?_, fun j hj => ?_⟩
          · rw [qAt_set] at hq
            split at hq
            · rename_i hc
              rcases List.mem_append.1 hq with h5 | h5
              · rw [← hc.1]; exact h.up i q h5 l hl
              · simp at h5
                subst h5
                have := hh l hl hp0
                rw [← hc.1]
                omega
            · exact h.up j q hq l hl
          · rw [qAt_set]
            split
            · rename_i hc
              rw [← hc.1] at hj
              exact absurd hj h4
            · exact h.free j hj
    · obtain ⟨-, e2, e3⟩ := take_waits (os := os) h1 h2
      rw [e2, e3]; exact h
  · obtain ⟨-, e2, e3⟩ := take_bad (qs := qs) h1
    rw [e2, e3]; exact h

/-- The last of the locks that one holds is the greatest. -/
theorem hold_last {os : List Int} {p : Int} {k : Nat} : ∀ x ∈ holdTo os p k, x ≤ (holdTo os p k).getD ((holdTo os p k).length - 1) 0 := by
  induction k with
  | zero => intro x hx; simp [holdTo] at hx
  | succ k ih =>
    intro x hx
    rw [holdTo_succ] at hx ⊢
    split at hx
    · rename_i hc
      rw [if_pos hc]
      have e : (holdTo os p k ++ [(k : Int)]).getD ((holdTo os p k ++ [(k : Int)]).length - 1) 0 = (k : Int) := by
        rw [List.getD_eq_getElem?_getD]
        simp
      rw [e]
      rcases List.mem_append.1 hx with h | h
      · obtain ⟨i, rfl, hi, -, -⟩ := mem_holdTo.1 h
        omega
      · simp at h; omega
    · rename_i hc
      rw [if_neg hc]
      simp only [List.append_nil] at hx ⊢
      exact ih x hx
theorem rise_take_ok {os : List Int} {p lock : Int} (h : hold os p = [] ∨ (hold os p).getD ((hold os p).length - 1) 0 < lock) : ∀ j, oAt os j = p → 0 ≤ p → (j : Int) < lock := fun j hj hp => by
  have hjl : j < os.length := by
    rcases Nat.lt_or_ge j os.length with h1 | h1
    · exact h1
    · rw [oAt_out h1] at hj; omega
  have hm : (j : Int) ∈ hold os p := mem_holdTo.2 ⟨j, rfl, hjl, hp, hj⟩
  rcases h with h | h
  · rw [h] at hm; cases hm
  · have := hold_last (os := os) (p := p) (k := os.length) _ hm
    have e : holdTo os p os.length = hold os p := rfl
    rw [e] at this
    omega
/-- Who has a lock now had it, or took it, or was the first who waited. -/
def NowOk (was now : List Int) (ahead : Qs) (take : Bool) (lock p : Int) (k : Nat) : Prop := oAt now k = oAt was k ∨ oAt now k = -1 ∨ (oAt was k = -1 ∧ take = true ∧ lock = (k : Int) ∧ oAt now k = p) ∨ (0 < (qAt ahead k).length ∧ (qAt ahead k).getD 0 0 = oAt now k)
theorem hand_now {os : List Int} {qs : Qs} {i k : Nat} (take : Bool) (lock p : Int) : NowOk os (handO os qs i) qs take lock p k := by
  unfold NowOk handO
  rw [oAt_set]
  split
  · rename_i hc
    obtain ⟨rfl, -⟩ := hc
    cases hq : qAt qs i with
    | nil => exact .inr (.inl rfl)
    | cons x r => exact .inr (.inr (.inr ⟨by simp, rfl⟩))
  · exact .inl rfl
theorem give_now {os : List Int} {qs : Qs} {lock p : Int} {k : Nat} (take : Bool) : NowOk os (giveO os qs lock p) qs take lock p k := by
  unfold giveO
  split
  · exact .inl rfl
  · split
    · exact hand_now _ _ _
    · exact .inl rfl
theorem take_now {os : List Int} {qs : Qs} {lock p : Int} {k : Nat} : NowOk os (takeO os qs lock p) qs true lock p k := by
  by_cases h1 : mayE os.length lock p = 0
  · obtain ⟨i, rfl, hi, hp0⟩ := mayE_zero h1
    by_cases h2 : wt qs p = none
    · by_cases h3 : oAt os i = p
      · obtain ⟨-, e2, -⟩ := take_has h1 h2 h3
        rw [e2]; exact .inl rfl
      · by_cases h4 : oAt os i = -1
        · obtain ⟨-, e2, -⟩ := take_free h1 h2 h4
          rw [e2]
          unfold NowOk
          rw [oAt_set]
          split
          · rename_i hc
            obtain ⟨rfl, -⟩ := hc
            exact .inr (.inr (.inl ⟨h4, rfl, rfl, rfl⟩))
          · exact .inl rfl
        · obtain ⟨-, e2, -⟩ := take_queue h1 h2 h3 h4
          rw [e2]; exact .inl rfl
    · obtain ⟨-, e2, -⟩ := take_waits (os := os) h1 h2
      rw [e2]; exact .inl rfl
  · obtain ⟨-, e2, -⟩ := take_bad (qs := qs) h1
    rw [e2]; exact .inl rfl
theorem endF_at {l : List Int} {os : List Int} {qs : Qs} {out : List (Int × Int)} (hnd : l.Nodup) (hl : ∀ x ∈ l, 0 ≤ x ∧ x < os.length) (k : Nat) : oAt (endF l os qs out).1 k = if (k : Int) ∈ l then (qAt qs k).headD (-1) else oAt os k := by
  induction l generalizing os qs out with
  | nil => simp [endF]
  | cons i r ih =>
    rw [endF]
    have hn := List.nodup_cons.1 hnd
    rw [ih hn.2 (fun x hx => by rw [handO_len]; exact hl x (List.mem_cons_of_mem _ hx))]
    obtain ⟨hi0, hi1⟩ := hl i List.mem_cons_self
    by_cases hk : (k : Int) ∈ r
    · have hne : i.toNat ≠ k := fun e => hn.1 (by rw [show i = (k : Int) by omega]; exact hk)
      rw [if_pos hk, if_pos (List.mem_cons_of_mem _ hk)]
      unfold handQ
      rw [qAt_set, if_neg (fun e => hne e.1)]
    · rw [if_neg hk]
      by_cases hik : (k : Int) = i
      · rw [if_pos (by rw [hik]; exact List.mem_cons_self)]
        unfold handO
        rw [oAt_set, if_pos (by omega)]
        rw [show i.toNat = k by omega]
      · rw [if_neg (by simp [hik, hk])]
        unfold handO
        rw [oAt_set, if_neg (by omega)]
theorem hold_nodup (os : List Int) (p : Int) (k : Nat) : (holdTo os p k).Nodup := by
  induction k with
  | zero => simp [holdTo]
  | succ k ih =>
    rw [holdTo_succ]
    split
    · rw [List.nodup_append]
      refine ⟨ih, by simp, fun a ha b hb e => ?_⟩
      obtain ⟨i, rfl, hi, -, -⟩ := mem_holdTo.1 ha
      simp at hb
      omega
    · simpa using ih
theorem end_now {os : List Int} {qs : Qs} (h : Rise os qs) (hG : GoodL os qs) (p : Int) {k : Nat} (take : Bool) (lock p' : Int) : NowOk os (endA os qs p).1 qs take lock p' k := by
  unfold NowOk endA hold
  rw [endF_at (hold_nodup _ _ _) (fun x hx => by
    obtain ⟨i, rfl, hi, -, -⟩ := mem_holdTo.1 hx
    omega)]
  split
  · rename_i hk
    obtain ⟨i, e, hi, hp0, ho⟩ := mem_holdTo.1 hk
    have hik : i = k := by omega
    subst hik
    have haw : qAt (awayQ qs p) i = qAt qs i := by
      unfold awayQ
      split
      · rename_i j hw
        have hm := (wt_some hG.once).1 hw
        have := h.up j p hm i ho
        unfold leaveQ
        rw [qAt_set, if_neg (by omega)]
      · rfl
    rw [haw]
    cases hq : qAt qs i with
    | nil => exact .inr (.inl rfl)
    | cons x r => exact .inr (.inr (.inr ⟨by simp, rfl⟩))
  · exact .inl rfl

/-- For whom one waits, through the lock. -/
def nxF (os : List Int) (qs : Qs) (x : Int) : Option Int := (wt qs x).map (fun i => oAt os i)
theorem nxF_some {os : List Int} {qs : Qs} (h : Rise os qs) (hG : GoodL os qs) {k : Nat} {v : Int} (hv : nxF os qs (oAt os k) = some v) : ∃ i, k < i ∧ i < os.length ∧ v = oAt os i := by
  unfold nxF at hv
  cases hw : wt qs (oAt os k) with
  | none => rw [hw] at hv; cases hv
  | some i =>
    rw [hw] at hv
    have hm := (wt_some hG.once).1 hw
    exact ⟨i, h.up i _ hm k rfl, by rw [← hG.n]; exact qAt_lt hm, (Option.some.inj hv).symm⟩
end Go.Proofs.Ytdihbbpndijdoaa
