/- A process in new memory: copiedProcess. -/
import Derived.Test.YtjbmljheepomnaaVP1
namespace Go.Proofs.Ytjbmljheepomnaa
open Go.RowKit

theorem el_at (sz : Nat) (L : List Value) (i r : Nat) (hr : r < sz) : (el sz L i)[r]? = L[i * sz + r]? := by
  unfold el
  rw [List.getElem?_take, if_pos hr, List.getElem?_drop]
theorem el_set {sz : Nat} {L : List Value} {i j r : Nat} {v : Value} (hr : r < sz) : el sz (L.set (i * sz + r) v) j = if j = i then (el sz L j).set r v else el sz L j := by
  apply List.ext_getElem?
  intro q
  by_cases hq : q < sz
  · rw [el_at _ _ _ _ hq, List.getElem?_set]
    by_cases e : j = i
    · subst e
      rw [if_pos rfl, List.getElem?_set, el_at _ _ _ _ hq]
      have hlen : r < (el sz L j).length ↔ j * sz + r < L.length := by
        constructor
        · intro h
          have := el_at sz L j r hr
          rw [List.getElem?_eq_getElem h] at this
          exact (List.getElem?_eq_some_iff.1 this.symm).1
        · intro h
          have := el_at sz L j r hr
          rw [List.getElem?_eq_getElem h] at this
          exact (List.getElem?_eq_some_iff.1 this).1
      by_cases e2 : r = q
      · subst e2
        simp only [if_true, hlen]
      · rw [if_neg (by omega), if_neg e2]
    · rw [if_neg e, el_at _ _ _ _ hq, if_neg]
      intro h
      apply e
      rcases Nat.lt_trichotomy i j with h1 | h1 | h1
      · have := Nat.mul_le_mul_right sz (show i + 1 ≤ j from h1)
        rw [Nat.succ_mul] at this
        omega
      · exact h1.symm
      · have := Nat.mul_le_mul_right sz (show j + 1 ≤ i from h1)
        rw [Nat.succ_mul] at this
        omega
  · have h1 : (el sz (L.set (i * sz + r) v) j)[q]? = none := by unfold el; rw [List.getElem?_take, if_neg hq]
    have h2 : (el sz L j)[q]? = none := by unfold el; rw [List.getElem?_take, if_neg hq]
    rw [h1]
    split
    · rw [List.getElem?_set]
      split
      · rename_i h
        exfalso
        omega
      · exact h2.symm
    · exact h2.symm
structure LI (W3 : World) (a : Option Addr) (n c : Nat) (us : List Value) (ls : List LnX) (i : Nat) (wr : World) : Prop where
  ex : ∃ (L : List Value) (b : Nat → Nat), Row wr 53 4 a n c L ∧ b 0 = W3.heap.size ∧ b i = wr.heap.size ∧ (∀ j, j < i → b j ≤ b (j + 1)) ∧ (∀ j, j < i → lO (b j) (b (j + 1)) wr (el 4 L j) (ls.getD j default)) ∧ (∀ j, i ≤ j → j < n → el 4 L j = el 4 us j)
  md : Mod (fun k => blk a = some k) W3 wr
  lt : ∀ k, blk a = some k → k < W3.heap.size
/-- Half of a lane is done. -/
structure LJ (W3 : World) (a : Option Addr) (n c : Nat) (us : List Value) (ls : List LnX) (i : Nat) (v1 : Value) (wr : World) : Prop where
  ex : ∃ (L : List Value) (b : Nat → Nat), Row wr 53 4 a n c L ∧ b 0 = W3.heap.size ∧ b i ≤ wr.heap.size ∧ (∀ j, j < i → b j ≤ b (j + 1)) ∧ (∀ j, j < i → lO (b j) (b (j + 1)) wr (el 4 L j) (ls.getD j default)) ∧ (∀ j, i < j → j < n → el 4 L j = el 4 us j) ∧ (∃ z, el 4 L i = [v1, z, .int .i64 (ls.getD i default).tk, .int .i64 (ls.getD i default).dr]) ∧ OwD 2 1 (fun _ _ => iE) (b i) wr.heap.size wr v1 (ls.getD i default).vs
  md : Mod (fun k => blk a = some k) W3 wr
  lt : ∀ k, blk a = some k → k < W3.heap.size
section
variable {W3 wr wa w1 : World} {a : Option Addr} {n c i m : Nat} {us usq : List Value} {ls : List LnX} {v v1 : Value}
theorem LI.below (h : LI W3 a n c us ls i wr) (hb : Below wr.heap.size wr wa) : (∃ (L : List Value) (b : Nat → Nat), Row wa 53 4 a n c L ∧ b 0 = W3.heap.size ∧ b i = wr.heap.size ∧ (∀ j, j < i → b j ≤ b (j + 1)) ∧ (∀ j, j < i → lO (b j) (b (j + 1)) wa (el 4 L j) (ls.getD j default)) ∧ (∀ j, i ≤ j → j < n → el 4 L j = el 4 us j)) ∧ Mod (fun k => blk a = some k) W3 wa := by
  obtain ⟨⟨L, b, r1, r2, r3, r4, r5, r6⟩, hmd, hlt⟩ := h
  have hml := mono_le i r4
  exact ⟨⟨L, b, r1.below hb, r2, r3, r4, fun j hj => (r5 j hj).kept fun k l1 l2 => hb.block k (by have := (hml (j + 1) (by omega)).2; omega), r6⟩, hmd.after hb⟩
theorem LI.step (h : LI W3 a n c us ls i wr) (hi : i < n) (ha : Below wr.heap.size wr wa) (hc : CpOut wa.drew 2 1 m usq (.returned v) w1) (hm : m = (ls.getD i default).vs.length) (hb : m ≤ BIG) (he : ∀ j, j < m → iE w1 (el 1 usq j) ((ls.getD i default).vs.getD j default))
    {z0 z1 : Value} (hz : el 4 us i = [z0, z1, .int .i64 (ls.getD i default).tk, .int .i64 (ls.getD i default).dr]) :
    ∃ g, a = some ⟨g, 0, none⟩ ∧ LJ W3 a n c us ls i v (w1.setCell ⟨g, i * 4, none⟩ v) ∧ (∃ u, w1.cell? ⟨g, i * 4, none⟩ = some u) ∧ w1.frozen? ⟨g, i * 4, none⟩ = false := by
  have hlt := h.lt
  have hmd0 := h.md
  obtain ⟨a', c', e1, k1, k2, k3⟩ := hc
  cases e1
  have hbw := bel_dr k3
  obtain ⟨⟨L, b, r1, r2, r3, r4, r5, r6⟩, hmd⟩ := h.below (ha.trans (hbw.mono ha.size))
  obtain ⟨g, rfl, q1, q2, q3⟩ := row_put r1 (i * 4) (by omega) (.slice a' m c')
  have hg := hlt g rfl
  have hsz : W3.heap.size ≤ wr.heap.size := hmd0.size
  have hsz1 : wr.heap.size ≤ wa.heap.size := ha.size
  have hsz2 : wa.heap.size ≤ w1.heap.size := hbw.size
  have hdr : wa.drew.heap.size = wa.heap.size := rfl
  have hml := mono_le i r4
  refine ⟨g, rfl, ⟨⟨L.set (i * 4) (.slice a' m c'), b, q1, r2, by rw [setCell_size]; omega, r4, fun j hj => ?_, fun j hj hjn => ?_, ⟨z1, ?_⟩, ?_⟩, ?_, hlt⟩, q2, q3⟩
  · have := el_set (sz := 4) (L := L) (i := i) (j := j) (r := 0) (v := .slice a' m c') (by decide)
    rw [Nat.add_zero] at this
    rw [this, if_neg (by omega)]
    exact (r5 j hj).kept fun k l1 l2 => setCell_other _ _ _ _ _ (by have := (hml j (by omega)).1; omega)
  · have := el_set (sz := 4) (L := L) (i := i) (j := j) (r := 0) (v := .slice a' m c') (by decide)
    rw [Nat.add_zero] at this
    rw [this, if_neg (by omega)]
    exact r6 j (by omega) hjn
  · have := el_set (sz := 4) (L := L) (i := i) (j := i) (r := 0) (v := .slice a' m c') (by decide)
    rw [Nat.add_zero] at this
    rw [this, if_pos rfl, r6 i (Nat.le_refl _) hi, hz]
    rfl
  · rw [hm, setCell_size, r3]
    refine OwD.flat (fun _ _ _ _ h => h) (w := w1) (us := usq) ?_ (fun k hk => ?_) (by omega) (by omega) (fun x hx => he x (by omega))
    · rw [← hm]
      exact k1.kept fun k hk => setCell_other _ _ _ _ _ (by rw [k2 k hk, hdr]; omega)
    · have h1 := k1.lt k hk
      have h2 := k2 k hk
      rw [hdr] at h2
      omega
  · exact Mod.setCell (p := ⟨g, i * 4, none⟩) hmd (.inl rfl) _
theorem LJ.step (h : LJ W3 a n c us ls i v1 wr) (hi : i < n) (hc : CpOut wr.drew 55 2 m usq (.returned v) w1) (hm : m = (ls.getD i default).ws.length) (hb : m ≤ BIG) (he : ∀ j, j < m → wE w1 (el 2 usq j) ((ls.getD i default).ws.getD j default)) :
    ∃ g, a = some ⟨g, 0, none⟩ ∧ LI W3 a n c us ls (i + 1) (w1.setCell ⟨g, i * 4 + 1, none⟩ v) ∧ (∃ u, w1.cell? ⟨g, i * 4 + 1, none⟩ = some u) ∧ w1.frozen? ⟨g, i * 4 + 1, none⟩ = false := by
  obtain ⟨⟨L, b, r1, r2, r3, r4, r5, r6, ⟨z, r7⟩, r8⟩, hmd, hlt⟩ := h
  obtain ⟨a', c', e1, k1, k2, k3⟩ := hc
  cases e1
  have hbw := bel_dr k3
  have r1' := r1.below hbw
  obtain ⟨g, rfl, q1, q2, q3⟩ := row_put r1' (i * 4 + 1) (by omega) (.slice a' m c')
  have hg := hlt g rfl
  have hsz : W3.heap.size ≤ wr.heap.size := hmd.size
  have hsz2 : wr.heap.size ≤ w1.heap.size := hbw.size
  have hdr : wr.drew.heap.size = wr.heap.size := rfl
  have hml := mono_le i r4
  have hks : ∀ k, k ≠ g → k < wr.heap.size → (w1.setCell ⟨g, i * 4 + 1, none⟩ (.slice a' m c')).heap[k]? = wr.heap[k]? := fun k hk hk2 => by rw [setCell_other _ _ _ _ _ hk]; exact hbw.block k hk2
  refine ⟨g, rfl, ⟨⟨L.set (i * 4 + 1) (.slice a' m c'), fun j => if j ≤ i then b j else w1.heap.size, q1, by simpa using r2, by show (if i + 1 ≤ i then b (i + 1) else w1.heap.size) = _; rw [if_neg (by omega), setCell_size], fun j hj => ?_, fun j hj => ?_, fun j hj hjn => ?_⟩, ?_, hlt⟩, q2, q3⟩
  · by_cases e : j = i
    · subst e
      simp only [Nat.le_refl, if_true]
      rw [if_neg (by omega)]
      omega
    · have h1 : j ≤ i := by omega
      have h2 : j + 1 ≤ i := by omega
      simp only [h1, h2, if_true]
      exact r4 j (by omega)
  · rw [el_set (by decide)]
    by_cases e : j = i
    · subst e
      simp only [Nat.le_refl, if_true]
      rw [if_neg (by omega), r7]
      refine ⟨v1, _, wr.heap.size, rfl, by omega, hsz2, ?_, ?_⟩
      · exact r8.kept (fun k l1 l2 => hks k (by have := (hml j (Nat.le_refl _)).1; omega) l2) fun _ _ _ _ _ _ h => h
      · rw [hm]
        refine OwD.flat (fun _ _ _ _ h => h) (w := w1) (us := usq) ?_ (fun k hk => ?_) hsz2 (by omega) (fun x hx => he x (by omega))
        · rw [← hm]
          exact k1.kept fun k hk => setCell_other _ _ _ _ _ (by rw [k2 k hk, hdr]; omega)
        · have h1 := k1.lt k hk
          have h2 := k2 k hk
          rw [hdr] at h2
          omega
    · have h1 : j ≤ i := by omega
      have h2 : j + 1 ≤ i := by omega
      simp only [h1, h2, if_true]
      rw [if_neg e]
      have hj1 := hml j h1
      have hj2 := hml (j + 1) h2
      exact (r5 j (by omega)).kept fun k l1 l2 => hks k (by omega) (by omega)
  · rw [el_set (by decide), if_neg (by omega)]
    exact r6 j (by omega) hjn
  · exact Mod.setCell (p := ⟨g, i * 4 + 1, none⟩) (hmd.after hbw) (.inl rfl) _
end
/-- Short enough to be copied. -/
def PrFew (x : PrX) : Prop := x.ls.length ≤ 1048576 ∧ ∀ j, (x.ls.getD j default).vs.length ≤ 1048576 ∧ (x.ls.getD j default).ws.length ≤ 1048576
def RoOut (w : World) (x : PrX) (e : Ending) (w' : World) : Prop := ∃ cs, e = .returned (.agg cs.toArray) ∧ rO w.heap.size w'.heap.size w' cs x ∧ Below w.heap.size w w'
end Go.Proofs.Ytjbmljheepomnaa
