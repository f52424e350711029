/- What comes out is written over: rows of whatever. -/
import Derived.Test.YtjbmljheepomnaaVD1
namespace Go.Proofs.Ytjbmljheepomnaa
open Go.RowKit

/-- A row, whatever lies in it. -/
structure RW (w : World) (T : TypeId) (sz : Nat) (a : Option Addr) (n c : Nat) : Prop where
  ex : ∃ L, Row w T sz a n c L
theorem Row.rw {w : World} {T : TypeId} {sz : Nat} {a : Option Addr} {n c : Nat} {L : List Value} (h : Row w T sz a n c L) : RW w T sz a n c := ⟨⟨L, h⟩⟩
section
variable {w w' : World} {T : TypeId} {sz : Nat} {a : Option Addr} {n c : Nat}
theorem RW.kept (h : RW w T sz a n c) (hk : ∀ k, blk a = some k → w'.heap[k]? = w.heap[k]?) : RW w' T sz a n c := by
  obtain ⟨L, r⟩ := h.ex
  exact ⟨⟨L, r.kept hk⟩⟩
theorem RW.lt (h : RW w T sz a n c) : ∀ k, blk a = some k → k < w.heap.size := by
  obtain ⟨L, r⟩ := h.ex
  exact r.lt
theorem RW.mod {S : Nat → Prop} (h : RW w T sz a n c) (hm : Mod S w w') (hn : ∀ k, blk a = some k → ¬ S k) : RW w' T sz a n c := h.kept fun k hk => hm.block k (h.lt k hk) (hn k hk)
theorem RW.put (h : RW w T sz a n c) (j : Nat) (hj : j < n * sz) (v : Value) : ∃ g, a = some ⟨g, 0, none⟩ ∧ RW (w.setCell ⟨g, j, none⟩ v) T sz a n c ∧ (∃ u, w.cell? ⟨g, j, none⟩ = some u) ∧ ∀ i, w.frozen? ⟨g, i, none⟩ = false := by
  obtain ⟨L, r⟩ := h.ex
  obtain ⟨g, e, q1, q2, q3⟩ := row_put r j hj v
  exact ⟨g, e, q1.rw, q2, fun i => r.free i g e⟩
theorem RW.push {T' : TypeId} {z : Value} {bytes : Nat} (hu : Try.prog.underlying T' = some (.slice T)) (hinfo : (Try.prog.info? T).map (fun i => (i.zero, i.size, i.bytes)) = some (some z, sz, bytes)) (hzs : z.cells.size = sz) (hb64 : bytes ≤ 136) (h : RW w T sz a n c) (hn : n ≤ 1000000000) (us : List Value) (hus : us.length = sz) (h1 : ∀ u ∈ us, u.oneCell' = true) :
    ∃ a' c' w', (∀ ty, (Builtin.append_ #[T', T'] ty #[.slice a n c, .slice (some ⟨w.heap.size, 0, none⟩) 1 1]).run Try.prog (w.alloc (.cells us.toArray T)) = .ok (.slice a' (n + 1) c') w') ∧ RW w' T sz a' (n + 1) c' ∧ Mod (fun k => blk a = some k) w w' ∧ (∀ k, blk a' = some k → blk a = some k ∨ w.heap.size ≤ k) := by
  obtain ⟨L, r⟩ := h.ex
  obtain ⟨a', c', w', p1, p2, p3, p4⟩ := push_big (T := T') hu hinfo hzs hb64 r hn us hus h1
  exact ⟨a', c', w', p1, p2.rw, p3, p4⟩
end
theorem sO.kept {lo hi : Nat} {w w' : World} {cs : List Value} {x : StX} (h : sO lo hi w cs x) (hk : ∀ k, lo ≤ k → k < hi → w'.heap[k]? = w.heap[k]?) : sO lo hi w' cs x := by
  obtain ⟨a1, c1, L1, b1, a2, c2, L2, b2, e, r1, r2, n1, n2, l1, m1, l2, m2, l3, B1, B2, h1, h2⟩ := h
  have hm1 := mono_le _ m1
  have hm2 := mono_le _ m2
  have t1 := (hm1 x.ps.length (Nat.le_refl _)).1
  have t2 := (hm2 x.qs.length (Nat.le_refl _)).1
  refine ⟨a1, c1, L1, b1, a2, c2, L2, b2, e, r1.kept fun k hk1 => hk k (n1 k hk1).1 (by have := (n1 k hk1).2.1; omega), r2.kept fun k hk1 => hk k (n2 k hk1).1 (by have := (n2 k hk1).2; omega), n1, n2, l1, m1, l2, m2, l3, B1, B2, fun i hi => ?_, fun i hi => ?_⟩
  · have q1 := hm1 i (by omega)
    have q2 := hm1 (i + 1) (by omega)
    exact (h1 i hi).kept fun k k1 k2 => hk k (by omega) (by omega)
  · have q1 := hm2 i (by omega)
    have q2 := hm2 (i + 1) (by omega)
    exact (h2 i hi).kept fun k k1 k2 => hk k (by omega) (by omega)
theorem OwD.rw {α : Type} [Inhabited α] {T : TypeId} {sz : Nat} {E : Nat → Nat → World → List Value → α → Prop} {lo hi : Nat} {w : World} {v : Value} {xs : List α} (h : OwD T sz E lo hi w v xs) : ∃ a c, v = .slice a xs.length c ∧ RW w T sz a xs.length c ∧ ∀ k, blk a = some k → lo ≤ k ∧ k < hi := by
  obtain ⟨a, c, L, b, e, r, n, l1, m, l2, _, _⟩ := h
  have hm := mono_le _ m
  refine ⟨a, c, e, r.rw, fun k hk => ?_⟩
  have := n k hk
  have := (hm xs.length (Nat.le_refl _)).1
  omega
end Go.Proofs.Ytjbmljheepomnaa
