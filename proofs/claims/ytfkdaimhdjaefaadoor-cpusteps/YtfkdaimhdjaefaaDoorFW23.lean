/- Two rows of the call's own behind two variables. -/
import Derived.Test.YtfkdaimhdjaefaaDoorGFd
import Derived.Test.YtfkdaimhdjaefaaDoorGFm
import Derived.Deep.AppendLies
import Derived.OneCell
namespace Go.Proofs.YtfkdaimhdjaefaaDoor.Flt
open Go.RowKit

/-- A variable that holds a row of the call's own. -/
structure Var (B : Nat) (w : World) (R g c : Nat) (L : List Nat) : Prop where
  cell : w.cell? ⟨R, 0, none⟩ = some (.slice (some ⟨g, 0, none⟩) L.length c)
  soft : w.frozen? ⟨R, 0, none⟩ = false
  own : w.ownsRow B 96 1 (.slice (some ⟨g, 0, none⟩) L.length c) L.length (u32s L)
  base : B ≤ R

structure St (B : Nat) (w : World) (Q g c : Nat) (L : List Nat) (S h d : Nat) (M : List Nat) : Prop where
  vq : Var B w Q g c L
  vs : Var B w S h d M
  ne : g ≠ h ∧ g ≠ Q ∧ g ≠ S ∧ h ≠ Q ∧ h ≠ S ∧ Q ≠ S

theorem St.swap {B : Nat} {w : World} {Q g c : Nat} {L : List Nat} {S h d : Nat} {M : List Nat} (s : St B w Q g c L S h d M) : St B w S h d M Q g c L := by
  obtain ⟨a, b, n1, n2, n3, n4, n5, n6⟩ := s
  exact ⟨b, a, n1.symm, n5, n4, n3, n2, n6.symm⟩

theorem Var.drew {B : Nat} {w : World} {R g c : Nat} {L : List Nat} (v : Var B w R g c L) : Var B w.drew R g c L := ⟨v.cell, v.soft, v.own, v.base⟩
theorem St.drew {B : Nat} {w : World} {Q g c : Nat} {L : List Nat} {S h d : Nat} {M : List Nat} (s : St B w Q g c L S h d M) : St B w.drew Q g c L S h d M := ⟨s.vq.drew, s.vs.drew, s.ne⟩

theorem Var.lt {B : Nat} {w : World} {R g c : Nat} {L : List Nat} (v : Var B w R g c L) : R < w.heap.size ∧ g < w.heap.size ∧ B ≤ g :=
  ⟨World.block_lt_of_cell? w _ v.cell, (v.own.lt g rfl).2, (v.own.lt g rfl).1⟩

/-- What touches none of its two blocks. -/
theorem Var.far {B : Nat} {w w' : World} {R g c : Nat} {L : List Nat} (v : Var B w R g c L) (hR : w'.heap[R]? = w.heap[R]?) (hg : w'.heap[g]? = w.heap[g]?) : Var B w' R g c L := by
  refine ⟨(World.cell?_of_block (w := w) hR).trans v.cell, (World.frozen?_of_block (w := w) hR).trans v.soft, ?_, v.base⟩
  obtain ⟨h1, h2⟩ := v.own
  refine ⟨h1, ?_⟩
  rcases h2 with ⟨h, _⟩ | ⟨g', cap, cur, h, r1, r2, r3⟩
  · simp at h
  · simp only [Value.slice.injEq, Option.some.injEq, Addr.mk.injEq, and_true, true_and] at h
    obtain ⟨rfl, rfl⟩ := h
    exact .inr ⟨g, c, cur, rfl, r1, by rw [hg]; exact r2, r3⟩

theorem St.set {B : Nat} {w : World} {Q g c : Nat} {L : List Nat} {S h d : Nat} {M : List Nat} (s : St B w Q g c L S h d M) (t z : Nat) :
    St B (w.setCell ⟨g, t, none⟩ (.int .u32 (z : Int))) Q g c (L.set t z) S h d M := by
  obtain ⟨n1, n2, n3, n4, n5, n6⟩ := s.ne
  have ho : ∀ k, k ≠ g → (w.setCell ⟨g, t, none⟩ (.int .u32 (z : Int))).heap[k]? = w.heap[k]? := fun k hk => heap_setCell_other w ⟨g, t, none⟩ k _ (fun e => hk (by simpa using e))
  have hl : (L.set t z).length = L.length := by simp
  have hu : (u32s L).set t (.int .u32 (z : Int)) = u32s (L.set t z) := by simp [u32s, List.map_set]
  refine ⟨⟨?_, ?_, ?_, s.vq.base⟩, s.vs.far (ho S n3.symm) (ho h n1.symm), s.ne⟩
  · rw [hl]; exact (World.cell?_of_block (w := w) (ho Q n2.symm)).trans s.vq.cell
  · exact (World.frozen?_of_block (w := w) (ho Q n2.symm)).trans s.vq.soft
  · rw [hl, ← hu]; exact (s.vq.own.stored t _).1

theorem St.push {B : Nat} {w w1 : World} {o : Obj} {Q g c g' c' : Nat} {L : List Nat} {S h d : Nat} {M : List Nat} (s : St B w Q g c L S h d M) (x : Nat)
    (hown : w1.ownsRow B 96 1 (.slice (some ⟨g', 0, none⟩) (L.length + 1) c') (L.length + 1) (u32s L ++ [.int .u32 (x : Int)]))
    (hg : (w.alloc o).grownBy w1 (some g)) (hat : some g = some g' ∨ g' = w.heap.size + 1) :
    St B (w1.setCell ⟨Q, 0, none⟩ (.slice (some ⟨g', 0, none⟩) (L.length + 1) c')) Q g' c' (L ++ [x]) S h d M := by
  obtain ⟨n1, n2, n3, n4, n5, n6⟩ := s.ne
  obtain ⟨q1, q2, q3⟩ := s.vq.lt
  obtain ⟨s1, s2, s3⟩ := s.vs.lt
  have hblk : ∀ k, k < w.heap.size → k ≠ g → w1.heap[k]? = w.heap[k]? := fun k hk hne => by
    rw [hg.block k (by simp; omega) (fun e => hne (Option.some.inj e)), Below.heap_alloc w o k hk]
  have ho : ∀ k, k ≠ Q → (w1.setCell ⟨Q, 0, none⟩ (.slice (some ⟨g', 0, none⟩) (L.length + 1) c')).heap[k]? = w1.heap[k]? := fun k hk => heap_setCell_other w1 ⟨Q, 0, none⟩ k _ (fun e => hk (by simpa using e))
  have hgQ : g' ≠ Q := by rcases hat with e | e; · cases e; exact n2
                          · omega
  have hgS : g' ≠ S := by rcases hat with e | e; · cases e; exact n3
                          · omega
  have hgh : g' ≠ h := by rcases hat with e | e; · cases e; exact n1
                          · omega
  have hll : (L ++ [x]).length = L.length + 1 := by simp
  have hQ1 : w1.cell? ⟨Q, 0, none⟩ = some (.slice (some ⟨g, 0, none⟩) L.length c) := (World.cell?_of_block (w := w) (hblk Q q1 n2.symm)).trans s.vq.cell
  have hQ2 : w1.frozen? ⟨Q, 0, none⟩ = false := (World.frozen?_of_block (w := w) (hblk Q q1 n2.symm)).trans s.vq.soft
  refine ⟨⟨?_, ?_, ?_, s.vq.base⟩, s.vs.far ?_ ?_, hgh, hgQ, hgS, n4, n5, n6⟩
  · rw [hll]; simp [go_sem, hQ1]
  · simp [go_sem, hQ2]
  · rw [hll, ← u32s_snoc]
    exact ownsRow_setCell_other hown (by simpa [Value.ownBlock] using hgQ) _
  · rw [ho S (by omega), hblk S s1 n3.symm]
  · rw [ho h n4, hblk h s2 n1.symm]

/-- What stands in the variable behind the append. -/
theorem St.pushed {B : Nat} {w w1 : World} {o : Obj} {Q g c : Nat} {L : List Nat} {S h d : Nat} {M : List Nat} (s : St B w Q g c L S h d M) (hg : (w.alloc o).grownBy w1 (some g)) :
    w1.cell? ⟨Q, 0, none⟩ = some (.slice (some ⟨g, 0, none⟩) L.length c) ∧ w1.frozen? ⟨Q, 0, none⟩ = false := by
  obtain ⟨n1, n2, n3, n4, n5, n6⟩ := s.ne
  obtain ⟨q1, q2, q3⟩ := s.vq.lt
  have hblk : w1.heap[Q]? = w.heap[Q]? := by
    rw [hg.block Q (by simp; omega) (fun e => n2.symm (Option.some.inj e)), Below.heap_alloc w o Q q1]
  exact ⟨(World.cell?_of_block (w := w) hblk).trans s.vq.cell, (World.frozen?_of_block (w := w) hblk).trans s.vq.soft⟩

theorem St.elem {B : Nat} {w : World} {Q g c : Nat} {L : List Nat} {S h d : Nat} {M : List Nat} (s : St B w Q g c L S h d M) (t : Nat) (ht : t < L.length) :
    w.cell? ⟨g, t, none⟩ = some (.int .u32 (L.getD t 0 : Nat)) ∧ w.frozen? ⟨g, t, none⟩ = false := by
  constructor
  · rw [s.vq.own.cellAt t (by omega)]
    simp [u32s, List.getD, ht]
  · rcases s.vq.own.2 with ⟨h', _⟩ | ⟨g', cap', cur, h', hb, hg, _⟩
    · simp at h'
    · simp only [Value.slice.injEq, Option.some.injEq, Addr.mk.injEq, and_true, true_and] at h'
      obtain ⟨rfl, rfl⟩ := h'
      exact frozen_of_row w g t cur 96 hg
end Go.Proofs.YtfkdaimhdjaefaaDoor.Flt
