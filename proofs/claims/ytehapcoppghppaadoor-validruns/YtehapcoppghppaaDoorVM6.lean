/- What Check and Longest say of each other. -/
import Derived.Test.YtehapcoppghppaaDoorVM5
namespace Go.Proofs.YtehapcoppghppaaDoor
open Go.RowKit

theorem chk_spec (h : Int) : ∀ S : List (Nat × Int), (chk S h = (0, 0) ∧ ∀ t ∈ S, t.2 ≤ h) ∨ ∃ pre t post, S = pre ++ t :: post ∧ (∀ a ∈ pre, a.2 ≤ h) ∧ h < t.2 ∧ chk S h = (15, (t.1 : Int))
  | [] => .inl ⟨rfl, fun t ht => absurd ht List.not_mem_nil⟩
  | (p, u) :: r => by
    by_cases hu : h < u
    · exact .inr ⟨[], (p, u), r, rfl, fun a ha => absurd ha List.not_mem_nil, hu, by unfold chk; rw [if_pos hu]⟩
    · have e : chk ((p, u) :: r) h = chk r h := by rw [chk, if_neg hu]
      rw [e]
      rcases chk_spec h r with ⟨h1, h2⟩ | ⟨pre, t, post, h1, h2, h3, h4⟩
      · refine .inl ⟨h1, fun t ht => ?_⟩
        rcases List.mem_cons.mp ht with rfl | ht
        · simp only; omega
        · exact h2 t ht
      · refine .inr ⟨(p, u) :: pre, t, post, by rw [h1]; rfl, fun a ha => ?_, h3, h4⟩
        rcases List.mem_cons.mp ha with rfl | ha
        · simp only; omega
        · exact h2 a ha

theorem lng_spec : ∀ (S : List (Nat × Int)) (m : Int), (∃ pre t post, S = pre ++ t :: post ∧ t.2 = INF ∧ lng m S = (0, 15, (t.1 : Int))) ∨ ((∀ t ∈ S, t.2 ≠ INF) ∧ ∃ n, lng m S = (n, 0, 0) ∧ m ≤ n ∧ (∀ t ∈ S, t.2 ≤ n) ∧ (n = m ∨ ∃ t ∈ S, t.2 = n))
  | [], m => .inr ⟨fun t ht => absurd ht List.not_mem_nil, m, rfl, Int.le_refl _, fun t ht => absurd ht List.not_mem_nil, .inl rfl⟩
  | (p, u) :: r, m => by
    by_cases hu : u = INF
    · exact .inl ⟨[], (p, u), r, rfl, hu, by rw [lng, if_pos hu]⟩
    · have e : lng m ((p, u) :: r) = lng (max m u) r := by rw [lng, if_neg hu]
      rw [e]
      rcases lng_spec r (max m u) with ⟨pre, t, post, h1, h2, h3⟩ | ⟨h1, n, h2, h3, h4, h5⟩
      · exact .inl ⟨(p, u) :: pre, t, post, by rw [h1]; rfl, h2, h3⟩
      · refine .inr ⟨fun t ht => ?_, n, h2, by omega, fun t ht => ?_, ?_⟩
        · rcases List.mem_cons.mp ht with rfl | ht
          · exact hu
          · exact h1 t ht
        · rcases List.mem_cons.mp ht with rfl | ht
          · simp only; omega
          · exact h4 t ht
        · rcases h5 with h5 | ⟨t, ht, h5⟩
          · rcases Int.lt_or_le m u with h6 | h6
            · exact .inr ⟨(p, u), by simp, by simp only; omega⟩
            · exact .inl (by omega)
          · exact .inr ⟨t, List.mem_cons_of_mem _ ht, h5⟩

theorem spT_mem {l : List Ins} : ∀ (n : Nat) (t : Nat × Int), t ∈ spT l n → t.1 < n ∧ isH l t.1 ∧ t.2 = un l (st1 l t.1)
  | 0, t, h => absurd h List.not_mem_nil
  | n + 1, t, h => by
    rcases List.mem_append.mp h with h | h
    · have := spT_mem n t h
      exact ⟨by omega, this.2⟩
    · unfold spF at h
      split at h
      · next hh =>
        rw [List.mem_singleton] at h
        rw [h]
        exact ⟨by simp only; omega, hh, rfl⟩
      · cases h

theorem spT_sorted (l : List Ins) : ∀ n, (spT l n).Pairwise (fun a b => a.1 < b.1)
  | 0 => List.Pairwise.nil
  | n + 1 => by
    refine List.pairwise_append.mpr ⟨spT_sorted l n, ?_, fun a ha b hb => ?_⟩
    · unfold spF
      split
      · exact List.pairwise_singleton _ _
      · exact List.Pairwise.nil
    · have h1 := (spT_mem n a ha).1
      unfold spF at hb
      split at hb
      · rw [List.mem_singleton] at hb
        rw [hb]
        exact h1
      · cases hb

theorem sp_mem_mk {l : List Ins} {p : Nat} (h : isH l p) : ∀ n, p < n → (p, un l (st1 l p)) ∈ spT l n
  | 0, hp => absurd hp (Nat.not_lt_zero p)
  | n + 1, hp => by
    show _ ∈ spT l n ++ spF l n
    by_cases e : p = n
    · subst e
      refine List.mem_append.mpr (.inr ?_)
      unfold spF
      rw [if_pos h]
      simp
    · exact List.mem_append.mpr (.inl (sp_mem_mk h n (by omega)))

/-- What Longest and Check say of a program, side by side. -/
inductive Tight (l : List Ins) (k : Int) : Prop where
  | no : (mayL l k).1 ≠ 0 → longL l k = (0, mayL l k) → Tight l k
  | bad (e : Int) (p q : Nat) : (mayL l k).1 = 0 → e ≠ 0 → longL l k = (0, e, (p : Int)) → p < l.length → checkL l k 64 = (e, (q : Int)) → (q = p ∨ (e = 15 ∧ q ≤ p)) → Tight l k
  | fit (n : Nat) : (mayL l k).1 = 0 → longL l k = ((n : Int), 0, 0) → n ≤ 70000 → (∀ h : Int, 0 ≤ h → h ≤ 64 → ((n : Int) ≤ h ∧ checkL l k h = (0, 0)) ∨ (h < n ∧ ∃ q : Nat, q < l.length ∧ (l.getD q default).op = 29 ∧ checkL l k h = (15, (q : Int)))) → (n = 0 ∨ ∃ i, i < l.length ∧ (l.getD i default).op = 29) → Tight l k

theorem tight (l : List Ins) (k : Int) : Tight l k := by
  by_cases hm : (mayL l k).1 = 0
  · obtain ⟨ok, _⟩ := ok_of_may hm
    by_cases hw : ∃ q : Int × Nat, IsW l q.1 q.2
    · obtain ⟨⟨e, p⟩, hw⟩ := hw
      have he := erL_wrong hm hw
      have hne : (erL l k).1 ≠ 0 := by rw [he]; exact hw.2.1
      obtain ⟨n, h1, h2, h3⟩ := hw.1
      have hp := wrE_place (l := l) (n := n) (by rw [h2]; exact hw.2.1)
      refine .bad e p p hm hw.2.1 ?_ (by simp only at h3; omega) ?_ (.inl rfl)
      · unfold longL; rw [if_pos hne, he]
      · unfold checkL; rw [if_neg (by omega), if_pos hne, he]
    · have hr : ∀ n, Rch l n → wrE l n = 0 := by
        have key : ∀ N n, n / 256 < N → Rch l n → wrE l n ≠ 0 → False := by
          intro N
          induction N with
          | zero => intro n hn; omega
          | succ N ih =>
            intro n hn hr hne
            refine hw ⟨(wrE l n, n / 256), ⟨n, hr, rfl, rfl⟩, hne, fun m hm hwm => ?_⟩
            refine Nat.le_of_not_lt fun hlt => ih m (by simp only at hlt; omega) hm hwm
        exact fun n hn => Classical.byContradiction fun h => key (n / 256 + 1) n (by omega) hn h
      have he := erL_ok hm hr
      have hL : longL l k = lng 0 (spL l) := by unfold longL; rw [he]; simp
      have hC : ∀ h : Int, 0 ≤ h → h ≤ 64 → checkL l k h = chk (spL l) h := fun h h1 h2 => by unfold checkL; rw [if_neg (by omega), he]; simp
      have hmem : ∀ t ∈ spL l, t.1 < l.length ∧ isH l t.1 ∧ t.2 = un l (st1 l t.1) := fun t ht => spT_mem _ t ht
      rcases lng_spec (spL l) 0 with ⟨pre, t, post, h1, h2, h3⟩ | ⟨h1, n, h2, h3, h4, h5⟩
      · have ht : t ∈ spL l := by rw [h1]; simp
        rcases chk_spec 64 (spL l) with ⟨c1, c2⟩ | ⟨pre', t', post', c1, c2, c3, c4⟩
        · have := c2 t ht
          rw [h2] at this
          exact absurd this (by decide)
        · refine .bad 15 t.1 t'.1 hm (by decide) (by rw [hL, h3]) (hmem t ht).1 (by rw [hC 64 (by decide) (by decide), c4]) (.inr ⟨rfl, ?_⟩)
          -- the first that is too long is not behind the first without an end
          have hs : (spL l).Pairwise (fun a b => a.1 < b.1) := spT_sorted l l.length
          rw [c1] at ht
          rcases List.mem_append.mp ht with h | h
          · have := c2 t h
            rw [h2] at this
            exact absurd this (by decide)
          · rcases List.mem_cons.mp h with h | h
            · rw [h]; exact Nat.le_refl _
            · rw [c1] at hs
              have := (List.pairwise_cons.mp (List.pairwise_append.mp hs).2.1).1 t h
              omega
      · have hn0 : 0 ≤ n := h3
        obtain ⟨m, rfl⟩ : ∃ m : Nat, n = m := ⟨n.toNat, by omega⟩
        refine .fit m hm (by rw [hL, h2]) ?_ (fun h hh1 hh2 => ?_) ?_
        · rcases h5 with h5 | ⟨t, ht, h5⟩
          · omega
          · have h6 := (hmem t ht).2.2
            have h7 := h1 t ht
            rw [h6] at h7
            have h8 := un_le ok h7
            have := ok.len
            omega
        · rw [hC h hh1 hh2]
          rcases chk_spec h (spL l) with ⟨c1, c2⟩ | ⟨pre', t', post', c1, c2, c3, c4⟩
          · refine .inl ⟨?_, c1⟩
            rcases h5 with h5 | ⟨t, ht, h5⟩
            · omega
            · have := c2 t ht
              omega
          · have ht : t' ∈ spL l := by rw [c1]; simp
            have := h4 t' ht
            exact .inr ⟨by omega, t'.1, (hmem t' ht).1, (hmem t' ht).2.1.1, c4⟩
        · rcases h5 with h5 | ⟨t, ht, h5⟩
          · exact .inl (by omega)
          · exact .inr ⟨t.1, (hmem t ht).1, (hmem t ht).2.1.1⟩
  · refine .no hm ?_
    unfold longL
    rw [erL_may hm, if_pos hm]
end Go.Proofs.YtehapcoppghppaaDoor
