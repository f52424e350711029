/- The document's copy of a state: the rounds. -/
import Derived.Test.YtjbmljheepomnaaVD1
namespace Go.Proofs.Ytjbmljheepomnaa
open Go.RowKit

theorem AG.empty {α : Type} [Inhabited α] {T : TypeId} {sz : Nat} {E : World → List Value → α → Prop} {xs : List α} {w : World} : AG T sz E w.heap.size xs 0 (some ⟨w.heap.size, 0, none⟩) 0 (w.alloc (.cells #[] T)) :=
  ⟨⟨[], fun _ => 0, fun _ => 0, row_new (n := 0) (cs := #[]) (heap_alloc_new w _) (by simp) (Nat.zero_le _), fun j hj => absurd hj (Nat.not_lt_zero j)⟩, fun k hk => by cases hk; exact Nat.le_refl _⟩
theorem AG.stable {α : Type} [Inhabited α] {T : TypeId} {sz : Nat} {E : World → List Value → α → Prop} {N : Nat} {xs : List α} {a : Option Addr} {c : Nat} {wr : World} (h : AG T sz E N xs xs.length a c wr) (hl : xs.length ≤ BIG) : ∀ w2, (∀ k, N ≤ k → k < wr.heap.size → w2.heap[k]? = wr.heap[k]?) → DeR sz E w2 (.slice a xs.length c) xs := fun w2 h2 => by
  obtain ⟨⟨L, lo, hi, r, e⟩, g⟩ := h
  refine DeR.of_row (r.kept fun k hk => h2 k (g k hk) (r.lt k hk)) hl fun i hi => ?_
  obtain ⟨e1, e2, e3, e4⟩ := e i hi
  exact e4 w2 fun k k1 k2 => h2 k (by omega) (by omega)
/-- What an append leaves, its answer as letters. -/
structure Ap (P : Program) (T : TypeId) (base src : Value) (w0 : World) (a : Option Addr) (n c : Nat) (w' : World) : Prop where
  run : ∀ ty, (Builtin.append_ #[T, T] ty #[base, src]).run P w0 = .ok (.slice a n c) w'
/-- One more thing of a list that grows: its append and what comes of it. -/
theorem AG.push {α : Type} [Inhabited α] {E : World → List Value → α → Prop} {T e : TypeId} {z : Value} {size bytes : Nat} (hu : Try.prog.underlying T = some (.slice e)) (hinfo : (Try.prog.info? e).map (fun i => (i.zero, i.size, i.bytes)) = some (some z, size, bytes)) (hzs : z.cells.size = size) (hb64 : bytes ≤ 136)
    {N : Nat} {xs : List α} {i : Nat} {a : Option Addr} {c : Nat} {wr wb : World} (h : AG e size E N xs i a c wr) (hi : i ≤ 1000000000) (hN : N ≤ wr.heap.size) (hb : Below wr.heap.size wr wb) (us : List Value) (hus : us.length = size) (h1 : ∀ u ∈ us, u.oneCell' = true) (hE : ∀ w2, (∀ k, wr.heap.size ≤ k → k < wb.heap.size → w2.heap[k]? = wb.heap[k]?) → E w2 us (xs.getD i default)) :
    ∃ a' c' w', (∀ ty, (Builtin.append_ #[T, T] ty #[.slice a i c, .slice (some ⟨wb.heap.size, 0, none⟩) 1 1]).run Try.prog (wb.alloc (.cells us.toArray e)) = .ok (.slice a' (i + 1) c') w') ∧ AG e size E N xs (i + 1) a' c' w' ∧ Below N wr w' ∧ wr.heap.size ≤ w'.heap.size := by
  obtain ⟨L0, -, -, hL0, -⟩ := h.ex
  obtain ⟨a', c', w', p1, p2, p3, p4⟩ := push_big (T := T) hu hinfo hzs hb64 (hL0.below hb) hi us hus h1
  refine ⟨a', c', w', p1, h.step hN hb hus hE (fun L r => ?_) p3 p4, ?_, Nat.le_trans hb.size p3.size⟩
  · obtain ⟨a3, c3, w3, q1, q2, -, -⟩ := push_big (T := T) hu hinfo hzs hb64 r hi us hus h1
    have he := (p1 0).symm.trans (q1 0)
    simp only [Result.ok.injEq, Value.slice.injEq, true_and] at he
    obtain ⟨⟨e1, e2⟩, e3⟩ := he
    subst e1 e2 e3
    exact q2
  · refine (hb.mono hN).trans (p3.below ?_ (fun k _ hk => h.ge k hk))
    have := hb.size
    omega
end Go.Proofs.Ytjbmljheepomnaa
