/- What Pop takes off, and what was set last. -/
import Derived.Test.YtdpbkoohhnpjmaaWM1
namespace Go.Proofs.Ytdpbkoohhnpjmaa

/-- Those of a list taken off. -/
def clrs (out L : List Th) : List Th := out.foldl (fun L t => clr t.2 L) L
theorem clrs_snoc (out L : List Th) (t : Th) : clrs (out ++ [t]) L = clr t.2 (clrs out L) := by simp [clrs]
theorem Pops.clrs {now : Int} {L out L' : List Th} (h : Pops now L out L') : L' = clrs out L := by
  induction h with
  | none => rfl
  | late _ _ => rfl
  | one _ _ _ ih => exact ih
theorem GoodW.clrs {L : List Th} (h : GoodW L) (out : List Th) : GoodW (clrs out L) := by
  induction out generalizing L with
  | nil => exact h
  | cons t r ih => exact ih (h.clr t.2)
theorem Pops.mem {now : Int} {L out L' : List Th} (h : Pops now L out L') : ∀ t ∈ out, t ∈ L ∧ t.1 ≤ now := by
  induction h with
  | none => exact fun t ht => absurd ht List.not_mem_nil
  | late _ _ => exact fun t ht => absurd ht List.not_mem_nil
  | one hm hl _ ih =>
    intro t ht
    rcases List.mem_cons.1 ht with rfl | h
    · exact ⟨hm.1, hl⟩
    · exact ⟨(clr_mem.1 (ih t h).1).1, (ih t h).2⟩
theorem Pops.sub {now : Int} {L out L' : List Th} (h : Pops now L out L') : ∀ t ∈ L', t ∈ L := by
  induction h with
  | none => exact fun t ht => ht
  | late _ _ => exact fun t ht => ht
  | one _ _ _ ih => exact fun t ht => (clr_mem.1 (ih t ht)).1
/-- They rise. -/
theorem Pops.rise {now : Int} {L out L' : List Th} (h : Pops now L out L') (hG : GoodW L) : out.Pairwise ltT := by
  induction h with
  | none => exact List.Pairwise.nil
  | late _ _ => exact List.Pairwise.nil
  | one hm _ hp ih =>
    refine List.pairwise_cons.2 ⟨fun t ht => ?_, ih (hG.clr _)⟩
    have h1 := (hp.mem t ht).1
    have h2 := clr_mem.1 h1
    have h3 := hm.2 t h2.1
    refine Classical.byContradiction fun h4 => h2.2 ?_
    rw [ltT_eq h3 h4]
/-- No number comes twice; none is left. -/
theorem Pops.nodup {now : Int} {L out L' : List Th} (h : Pops now L out L') : out.Pairwise (fun a b => a.2 ≠ b.2) := by
  induction h with
  | none => exact List.Pairwise.nil
  | late _ _ => exact List.Pairwise.nil
  | one hm _ hp ih =>
    refine List.pairwise_cons.2 ⟨fun t ht => ?_, ih⟩
    have := clr_mem.1 (hp.mem t ht).1
    exact fun e => this.2 e.symm
theorem Pops.len {now : Int} {L out L' : List Th} (h : Pops now L out L') (hG : GoodW L) : out.length + L'.length = L.length := by
  induction h with
  | none => rfl
  | late _ _ => simp
  | one hm _ _ ih =>
    have h1 := ih (hG.clr _)
    have h2 := clr_len hG (isSet_iff.2 ⟨_, hm.1, rfl⟩)
    simp only [List.length_cons]
    omega
theorem Pops.left {now : Int} {L out L' : List Th} (h : Pops now L out L') : L' = [] ∨ ∃ m, IsMin L' m ∧ now < m.1 := by
  induction h with
  | none => exact .inl rfl
  | late h1 h2 => exact .inr ⟨_, h1, h2⟩
  | one _ _ _ ih => exact ih
/-- By the last time all are due. -/
theorem Pops.last {L out L' : List Th} (h : Pops 9223372036854775807 L out L') (hG : GoodW L) : L' = [] := by
  rcases h.left with h1 | ⟨m, h1, h2⟩
  · exact h1
  · have := (hG.fit m (h.sub m h1.1)).1.2
    omega

/-! ### what was set last -/
def stepS (L : List Th) (x : Int × Int) : List Th := if 0 ≤ x.1 ∧ 0 ≤ x.2 then setA x.1 x.2 L else L
def foldS (l : List (Int × Int)) : List Th := l.foldl stepS []
theorem foldS_snoc (l : List (Int × Int)) (x : Int × Int) : foldS (l ++ [x]) = stepS (foldS l) x := by simp [foldS]
def pastL (l : List (Int × Int)) (id : Int) : Int := match l.reverse.find? (fun x => x.1 == id && decide (0 ≤ x.2)) with | some x => x.2 | none => -1
theorem pastL_snoc (l : List (Int × Int)) (x : Int × Int) (id : Int) : pastL (l ++ [x]) id = if x.1 = id ∧ 0 ≤ x.2 then x.2 else pastL l id := by
  unfold pastL
  rw [List.reverse_append, List.reverse_singleton, List.singleton_append, List.find?_cons]
  by_cases h : x.1 = id ∧ 0 ≤ x.2
  · have : (x.1 == id && decide (0 ≤ x.2)) = true := by simp [h]
    rw [this, if_pos h]
  · have : (x.1 == id && decide (0 ≤ x.2)) = false := by
      rw [Bool.and_eq_false_iff]
      by_cases h1 : x.1 = id
      · right; simp; omega
      · left; simpa using h1
    rw [this, if_neg h]
def Fit2 (x : Int × Int) : Prop := (-9223372036854775808 ≤ x.1 ∧ x.1 ≤ 9223372036854775807) ∧ -9223372036854775808 ≤ x.2 ∧ x.2 ≤ 9223372036854775807
theorem Fit2.fit {x : Int × Int} (h : Fit2 x) (h1 : 0 ≤ x.1 ∧ 0 ≤ x.2) : FitT (x.2, x.1) := ⟨⟨h1.2, h.2.2⟩, h1.1, h.1.2⟩
theorem GoodW.step {L : List Th} (h : GoodW L) {x : Int × Int} (hf : Fit2 x) : GoodW (stepS L x) := by
  unfold stepS
  split
  · rename_i h1
    exact h.set (hf.fit h1)
  · exact h
/-- Each was set so last. -/
structure SetSo (l : List (Int × Int)) (L : List Th) : Prop where
  good : GoodW L
  past : ∀ t ∈ L, pastL l t.2 = t.1
theorem SetSo.nil : SetSo [] [] := ⟨GoodW.nil, fun _ h => absurd h List.not_mem_nil⟩
theorem SetSo.step {l : List (Int × Int)} {L : List Th} (h : SetSo l L) {x : Int × Int} (hf : Fit2 x) : SetSo (l ++ [x]) (stepS L x) := by
  refine ⟨h.good.step hf, fun t ht => ?_⟩
  rw [pastL_snoc]
  unfold stepS at ht
  split at ht
  · rename_i h1
    unfold setA at ht
    rcases List.mem_append.1 ht with h2 | h2
    · have h3 := clr_mem.1 h2
      rw [if_neg (fun e => h3.2 e.1.symm)]
      exact h.past t h3.1
    · simp at h2
      subst h2
      rw [if_pos ⟨rfl, h1.2⟩]
  · rename_i h1
    have h3 := (h.good.fit t ht).2.1
    rw [if_neg (fun e => h1 ⟨by rw [e.1]; exact h3, e.2⟩)]
    exact h.past t ht
theorem SetSo.sub {l : List (Int × Int)} {L L' : List Th} (h : SetSo l L) (hG : GoodW L') (hs : ∀ t ∈ L', t ∈ L) : SetSo l L' := ⟨hG, fun t ht => h.past t (hs t ht)⟩
theorem step_len {L : List Th} (x : Int × Int) : (stepS L x).length ≤ L.length + 1 := by
  unfold stepS
  split
  · unfold setA clr
    have := List.length_filter_le (fun t : Th => t.2 != x.1) L
    simp
    omega
  · omega
def foldC (gone : List Int) (L : List Th) : List Th := gone.foldl (fun L id => clr id L) L
theorem foldC_snoc (gone : List Int) (L : List Th) (id : Int) : foldC (gone ++ [id]) L = clr id (foldC gone L) := by simp [foldC]
end Go.Proofs.Ytdpbkoohhnpjmaa
