/- table.Canon: the labels of a list, rising, each once. -/
import Derived.Test.YtaikeeidjfcijaaS15
namespace Go.Proofs.Ytaikeeidjfcijaa
open Go.RowKit Go.Sort

theorem canon_perm {l m c : List Nat} (hp : m.Perm l) (h : IsCanon m c) : IsCanon l c := ⟨h.1, fun x => (h.2 x).trans hp.mem_iff⟩

theorem owns_base {w : World} {B B' n : Nat} {e : TypeId} {g cap : Nat} {xs : List Value} (h : w.ownsRow B e 1 (.slice (some ⟨g, 0, none⟩) n cap) n xs) (hb : B' ≤ g) : w.ownsRow B' e 1 (.slice (some ⟨g, 0, none⟩) n cap) n xs := by
  refine ⟨h.1, ?_⟩
  rcases h.2 with ⟨h', _⟩ | ⟨g', cap', cur, h', _, r⟩
  · cases h'
  · cases h'; exact .inr ⟨g, cap, cur, rfl, hb, r⟩

theorem owns_take {w : World} {B n k : Nat} {e : TypeId} {g cap : Nat} {xs : List Value} (h : w.ownsRow B e 1 (.slice (some ⟨g, 0, none⟩) n cap) n xs) (hk : k ≤ n) : w.ownsRow B e 1 (.slice (some ⟨g, 0, none⟩) k cap) k (xs.take k) := by
  have hl := h.1
  refine ⟨by simp; omega, ?_⟩
  rcases h.2 with ⟨h', _⟩ | ⟨g', cap', cur, h', hb, hh, hn, hm, hs, ht⟩
  · cases h'
  · cases h'
    refine .inr ⟨g, cap, cur, rfl, hb, hh, by omega, hm, hs, ?_⟩
    rw [← ht, List.take_take]
    congr 1
    omega

set_option maxRecDepth 100000 in
set_option maxHeartbeats 2000000 in
theorem compact_nil (w : World) : Calls Try.prog 32 #[.slice none 0 0] w fun e w' => e = .returned (.slice none 0 0) ∧ w' = w := by
  go_enter Try.func32, Try.ntmps32
  go_wp2
  go_ret
  exact ⟨rfl, rfl⟩

set_option maxRecDepth 100000 in
set_option maxHeartbeats 2000000 in
theorem canon_any (a : Option Addr) (cap : Nat) (l : List Nat) (w : World) (hC : Cells w a (labCells l)) (hlen : l.length ≤ 1000000) :
    Calls Try.prog 14 #[.slice a l.length cap] w fun e w' => ∃ v c, IsCanon l c ∧ e = .returned v ∧ w'.ownsRow w.heap.size 35 1 v c.length (labCells c) ∧ Go.RowKit.Below w.heap.size w w' := by
  have hcl := clone_any a cap l w hC (by omega)
  go_enter Try.func14, Try.ntmps14
  go_wp2_with fail
  refine hcl.mono ?_
  rintro e w1 ⟨v, rfl, ho, hb1⟩
  rcases ho.2 with ⟨rfl, h0⟩ | ⟨g, cp, cur, rfl, hg, hh, hnc, hm, hs, ht⟩
  · have hl : l = [] := List.eq_nil_of_length_eq_zero h0
    subst hl
    go_wp2_with fail
    refine (sort_nil w1).mono ?_
    rintro e w2 ⟨rfl, rfl⟩
    go_wp2_with fail
    refine (compact_nil _).mono ?_
    rintro e w3 ⟨rfl, rfl⟩
    go_wp2
    go_ret
    exact ⟨_, [], ⟨List.Pairwise.nil, fun _ => Iff.rfl⟩, rfl, World.ownsRow_nil _ _ _ _, hb1⟩
  · have hR : Row w1 g l.length cp l.toArray := ⟨by simp, owns_base (B := w.heap.size) ho (Nat.zero_le _)⟩
    clear ho hh hs ht hm hnc
    go_wp2_with fail
    refine (sort_any g l.length cp l.toArray w1 hR (by omega)).mono ?_
    rintro e w2 ⟨rfl, d2, hp, hso, hN2⟩
    go_wp2_with fail
    refine (compact_any g l.length cp d2 w2 hN2.row hso (by omega)).mono ?_
    rintro e w3 ⟨k, d3, rfl, hk, hN3, hcan⟩
    go_wp2
    go_ret
    have hz2 : d2.size = l.length := hN2.row.size
    have hz3 : d3.size = l.length := hN3.row.size
    have hperm : d2.toList.Perm l := by
      have h := hp.2.2
      have e1 : (d2.extract 0 l.length).toList = d2.toList := by rw [← hz2]; simp
      have e2 : (l.toArray.extract 0 l.length).toList = l := by simp
      rw [e1, e2] at h
      exact h
    have hN := hN2.trans hN3
    have hkl : (d3.toList.take k).length = k := by simp; omega
    refine ⟨_, d3.toList.take k, canon_perm hperm hcan, rfl, ?_, ?_⟩
    · rw [hkl]
      have h := owns_take (owns_base hN3.row.own (B' := w.heap.size) hg) hk
      rw [show labCells (d3.toList.take k) = (labCells d3.toList).take k by simp [labCells]]
      exact h
    · exact hb1.grown hN.grown hb1.size (fun i hi => by cases hi; exact hg)
end Go.Proofs.Ytaikeeidjfcijaa
