/- PostFair: the copy that is laid. -/
import Derived.Test.YtknklbojcnhjcaaPF1
import Derived.Test.YtknklbojcnhjcaaPM2
import Derived.Deep.DeepCutAuto
namespace Go.Proofs.Ytknklbojcnhjcaa
open Go.RowKit

/-- One more is appended to a list of lanes of the call's own; between wr and w1 its lists were made. -/
theorem TlOut.push {w wr w1 w' : World} {a a' : Option Addr} {c c' : Nat} {l : List TLn} (h : TlOut w wr a c l) {vs : List Int} {ws : List (Int × Int)} {a1 a2 : Option Addr} {c1 c2 : Nat} (ho : OwnAL wr w1 vs ws a1 c1 a2 c2) (tk dr : Int)
    (hR : Row w' 29 4 a' (l.length + 1) c' (tlC l ++ tlP ⟨vs, ws, tk, dr, a1, c1, a2, c2⟩)) (hm : Mod (fun k => blk a = some k) w1 w') (hn : ∀ k, blk a' = some k → blk a = some k ∨ w1.heap.size ≤ k) :
    TlOut w w' a' c' (l ++ [⟨vs, ws, tk, dr, a1, c1, a2, c2⟩]) := by
  have hs := h.at'.snoc h.bel.size ho tk dr
  have hb := h.bel.size
  have hb1 := ho.bel.size
  have hnt : ∀ k, blk a = some k → ∀ i, i < (l ++ [(⟨vs, ws, tk, dr, a1, c1, a2, c2⟩ : TLn)]).length → ¬ tb (tAt (l ++ [⟨vs, ws, tk, dr, a1, c1, a2, c2⟩]) i) k := fun k hk i hi hf => by
    have hlt := h.row.lt k hk
    rw [List.length_append] at hi
    simp only [List.length_singleton] at hi
    by_cases e : i = l.length
    · subst e
      rw [tAt_app_eq] at hf
      rcases hf with hf | hf
      · have := ho.n1 k hf; omega
      · have := ho.n2 k hf; omega
    · rw [tAt_app_lt (by omega)] at hf
      exact (h.ge k hk).2 i (by omega) hf
  refine ⟨?_, hs.mod hm (fun i hi k hk e => hnt k e i hi hk), fun k hk => ?_, (h.bel.trans (ho.bel.mono hb)).trans (hm.below (by omega) (fun k _ hk => (h.ge k hk).1))⟩
  · rw [List.length_append, tlC_app]
    have : tlC [(⟨vs, ws, tk, dr, a1, c1, a2, c2⟩ : TLn)] = tlP ⟨vs, ws, tk, dr, a1, c1, a2, c2⟩ := by simp [tlC]
    rw [this]
    exact hR
  · rcases hn k hk with h1 | h1
    · exact ⟨(h.ge k h1).1, fun i hi => hnt k h1 i hi⟩
    · refine ⟨by omega, fun i hi hf => ?_⟩
      have := hs.lt i hi k hf
      omega
theorem TlOut.bel' {w wr w1 : World} {a : Option Addr} {c : Nat} {l : List TLn} (h : TlOut w wr a c l) (hb : Below wr.heap.size wr w1) : TlOut w w1 a c l :=
  ⟨h.row.below hb, h.at'.below hb, h.ge, h.bel.trans (hb.mono h.bel.size)⟩
theorem TlOut.new (w : World) : TlOut w (w.alloc (.cells #[] 29)) (some ⟨w.heap.size, 0, none⟩) 0 [] :=
  ⟨by simpa [tlC] using row_new (e := 29) (size := 4) (n := 0) (heap_alloc_new w (.cells #[] 29)) (by simp) (by unfold maxLen; omega), TlAt.nil _ _, fun k hk => ⟨by cases hk; exact Nat.le_refl _, fun i hi => by simp at hi⟩, below_al w _⟩

/-- The messages alone. -/
def onlyV (t : TLn) (u : TLn) : Prop := u.vs = t.vs ∧ u.ws = [] ∧ u.tk = 0 ∧ u.dr = 0
end Go.Proofs.Ytknklbojcnhjcaa
