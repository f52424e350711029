/- What LocksLay keeps: its own copies of what came in. -/
import Derived.Test.YtdihbbpndijdoaaKY1
namespace Go.Proofs.Ytdihbbpndijdoaa
open Go.RowKit Go.Maps

/-- While the copies are made. -/
structure LyB (w wr : World) (n0 : Nat) (ao : Option Addr) (co : Nat) (aq : Option Addr) (cq : Nat) (os : List Int) (es : List Qe) : Prop where
  own : Row wr 3 1 ao (n0 + 2) co (iC (os ++ [-77, -78]))
  ql : QL wr w.heap.size 0 aq cq es
  mks : ∀ j, j < es.length → Row wr 3 1 (eAt es j).1 ((eAt es j).2.2.length + 2) (eAt es j).2.1 (iC ((eAt es j).2.2 ++ [-77, -78]))
  ob : ∀ k, blk ao = some k → w.heap.size ≤ k ∧ ¬ qfp 0 aq es k
  bel : Below w.heap.size w wr
section
variable {w wr w' : World} {n0 : Nat} {ao : Option Addr} {co : Nat} {aq : Option Addr} {cq : Nat} {os : List Int} {es : List Qe}
theorem LyB.below (h : LyB w wr n0 ao co aq cq os es) (hb : Below wr.heap.size wr w') : LyB w w' n0 ao co aq cq os es :=
  ⟨h.own.below hb, h.ql.below hb, fun j hj => (h.mks j hj).below hb, h.ob, h.bel.trans (hb.mono h.bel.size)⟩
theorem LyB.start {w0 : World} (hr : Row w0 3 1 ao (n0 + 2) co (iC (os ++ [-77, -78]))) (hb : Below w.heap.size w w0) (hn : ∀ k, blk ao = some k → w.heap.size ≤ k) : LyB w (w0.alloc (.cells #[] 33)) n0 ao co (some ⟨w0.heap.size, 0, none⟩) 0 os [] := by
  have hb2 := below_al w0 (.cells #[] 33)
  have hh := heap_alloc_new w0 (.cells #[] 33)
  refine ⟨hr.below hb2, ⟨row_new (size := 1) (n := 0) hh rfl (by unfold maxLen; omega), (fun i _ hi => by simp at hi), (fun k hk => by cases hk; exact hb.size), (fun i _ hi => by simp at hi), (fun i j _ _ hi => by simp at hi)⟩, (fun j hj => by simp at hj), fun k hk => ⟨hn k hk, fun e => ?_⟩, hb.trans (hb2.mono hb.size)⟩
  have := hr.lt k hk
  rcases e with e | ⟨i, _, hi, _⟩
  · have e' : w0.heap.size = k := Option.some.inj e
    omega
  · simp at hi
/-- One more copy. -/
theorem LyB.push (h : LyB w wr n0 ao co aq cq os es) (hn : es.length < 1000) {w1 : World} (hb : Below wr.heap.size wr w1) {a : Option Addr} {n c : Nat} {q : List Int} (hl : q.length = n) (hr : Row w1 3 1 a (n + 2) c (iC (q ++ [-77, -78]))) (hne : ∀ k, blk a = some k → wr.heap.size ≤ k) :
    ∃ aq' cq' w2, (∀ ty, (Builtin.append_ #[34, 34] ty #[.slice aq es.length cq, .slice (some ⟨w1.heap.size, 0, none⟩) 1 1]).run Try.prog (w1.alloc (.cells #[.slice a n c] 33)) = .ok (.slice aq' (es.length + 1) cq') w2) ∧ LyB w w2 n0 ao co aq' cq' os (es ++ [(a, c, q)]) := by
  have h1 := h.below hb
  obtain ⟨aq', cq', w2, m1, m2, m3, m4⟩ := push_any (T := 34) Try.underlying34 infoL rfl h1.ql.row (by unfold maxLen; omega) (by omega) [.slice a n c] rfl (by simp [Value.oneCell'])
  have hsv : sC [((a, c, q) : Qe)] = [.slice a n c] := by simp [sC, sV, hl]
  have haq : ∀ k, blk aq = some k → k < wr.heap.size := fun k hk => h.ql.row.lt k hk
  have halt : ∀ k, blk a = some k → k < w1.heap.size := fun k hk => hr.lt k hk
  have hqw : Qw w1 (a, c, q) := by
    have hro := hr.ro
    obtain ⟨h3, h4, h5, h6⟩ := hro
    unfold Qw
    rw [hl]
    refine ⟨by rw [iC_len, hl]; omega, by show n ≤ c; omega, h5, ?_⟩
    rcases h6 with h6 | ⟨g, o, cur, e1, e2, e3, e4⟩
    · exact .inl h6
    · refine .inr ⟨g, o, cur, e1, e2, e3, ?_⟩
      have e5 : ((cur.toList.drop o).take (n + 2)).take n = (iC (q ++ [-77, -78])).take n := by rw [e4]
      have e6 : (iC (q ++ [-77, -78])).take n = iC q := by rw [iC_app, List.take_append_of_le_length (by rw [iC_len, hl]; omega), List.take_of_length_le (by rw [iC_len, hl]; omega)]
      rw [List.take_take, Nat.min_eq_left (by omega), e6] at e5
      exact e5
  have hna : ∀ k, blk a = some k → ¬ qfp 0 aq es k := fun k hk e => by
    have := h.ql.lt k e; have := hne k hk; omega
  have hnq : ∀ k, blk a = some k → blk aq' ≠ some k := fun k hk e => by
    rcases m4 k e with h4 | h4
    · have := hne k hk; have := haq k h4; omega
    · have := halt k hk; omega
  have hql := h1.ql.push h1.bel.size m3 (e' := (a, c, q)) (by rw [hsv]; exact m2) m4 (hqw.mod m3 (fun k hk e => hna k hk (.inl e))) (fun k hk => ⟨Nat.le_trans h.bel.size (hne k hk), hna k hk, hnq k hk⟩)
  refine ⟨aq', cq', w2, m1, ⟨h1.own.mod m3 (fun k hk e => (h.ob k hk).2 (.inl e)), hql, fun j hj => ?_, fun k hk => ⟨(h.ob k hk).1, fun e => ?_⟩, h1.bel.trans (m3.below h1.bel.size (fun k _ hk => h.ql.nb k hk))⟩⟩
  · simp only [List.length_append, List.length_singleton] at hj
    rw [eAt_app hj]
    split
    · show Row w2 3 1 a (q.length + 2) c (iC (q ++ [-77, -78]))
      rw [hl]
      exact hr.mod m3 (fun k hk e => hna k hk (.inl e))
    · have hj' : j < es.length := by omega
      exact (h1.mks j hj').mod m3 (fun k hk e => (h.ql.qb j (Nat.zero_le _) hj' k hk).2 e)
  · have hkl : k < wr.heap.size := h.own.lt k hk
    rcases e with e | ⟨j, _, hj, e⟩
    · rcases m4 k e with h4 | h4
      · exact (h.ob k hk).2 (.inl h4)
      · have := hb.size; omega
    · simp only [List.length_append, List.length_singleton] at hj
      rw [eAt_app hj] at e
      split at e
      · have := hne k e; omega
      · exact (h.ob k hk).2 (.inr ⟨j, Nat.zero_le _, by omega, e⟩)
theorem LyB.rd (h : LyB w wr n0 ao co aq cq os es) : Rd wr ao (iC os) ∧ RdQ wr aq es := by
  refine ⟨fun j u hj => ?_, h.ql.row.rd, fun i hi => (h.ql.qs i (Nat.zero_le _) hi).rd⟩
  have h3 := h.own.rd
  rw [iC_app] at h3
  exact h3 j u (by rw [List.getElem?_append_left (by
    rcases Nat.lt_or_ge j (iC os).length with h | h
    · exact h
    · rw [List.getElem?_eq_none h] at hj; cases hj)]; exact hj)
end

/-- While the copies are written over: those from i on are as they were. -/
structure LyI (B0 B1 : Nat) (W3 wr : World) (n0 n1 i : Nat) (ao : Option Addr) (co : Nat) (aq : Option Addr) (cq : Nat) (es : List Qe) (qs : Qs) : Prop where
  mod : SpM B0 B1 W3 wr
  ql : QL wr B0 i aq cq es
  len : es.length = n1
  same : ∀ j, i ≤ j → (eAt es j).2.2 = qAt qs j
  mks : ∀ j, i ≤ j → j < n1 → Row wr 3 1 (eAt es j).1 ((qAt qs j).length + 2) (eAt es j).2.1 (iC (qAt qs j ++ [-77, -78]))
  own : ∃ lo, Row wr 3 1 ao n0 co (iC lo)
  ob : ∀ k, blk ao = some k → B0 ≤ k ∧ k < B1 ∧ ¬ qfp i aq es k
  qb : ∀ k, qfp i aq es k → B0 ≤ k ∧ k < B1
section
variable {B0 B1 : Nat} {W3 wr w' : World} {n0 n1 i : Nat} {ao : Option Addr} {co : Nat} {aq : Option Addr} {cq : Nat} {es : List Qe} {qs : Qs}
theorem LyI.below (h : LyI B0 B1 W3 wr n0 n1 i ao co aq cq es qs) (hb : Below wr.heap.size wr w') : LyI B0 B1 W3 w' n0 n1 i ao co aq cq es qs := by
  obtain ⟨lo, hr⟩ := h.own
  exact ⟨h.mod.below hb, h.ql.below hb, h.len, h.same, fun j h1 h2 => (h.mks j h1 h2).below hb, ⟨lo, hr.below hb⟩, h.ob, h.qb⟩
theorem LyI.next (h : LyI B0 B1 W3 wr n0 n1 i ao co aq cq es qs) : LyI B0 B1 W3 wr n0 n1 (i + 1) ao co aq cq es qs :=
  ⟨h.mod, h.ql.mono (Nat.le_succ _), h.len, fun j h1 => h.same j (by omega), fun j h1 h2 => h.mks j (by omega) h2, h.own, fun k hk => ⟨(h.ob k hk).1, (h.ob k hk).2.1, fun e => (h.ob k hk).2.2 (qfp_mono (Nat.le_succ _) k e)⟩, fun k hk => h.qb k (qfp_mono (Nat.le_succ _) k hk)⟩
theorem LyI.mod' {S : Nat → Prop} (h : LyI B0 B1 W3 wr n0 n1 i ao co aq cq es qs) (hm : Mod S wr w') (hS : ∀ k, S k → B0 ≤ k ∧ k < B1) (hn : ∀ k, S k → ¬ qfp i aq es k ∧ blk ao ≠ some k) : LyI B0 B1 W3 w' n0 n1 i ao co aq cq es qs := by
  obtain ⟨lo, hr⟩ := h.own
  exact ⟨Mod.trans h.mod hm (fun k hk => .inl (hS k hk)), h.ql.mod hm (fun k hk e => (hn k e).1 hk), h.len, h.same, fun j h1 h2 => (h.mks j h1 h2).mod hm (fun k hk e => (hn k e).1 (.inr ⟨j, h1, by rw [h.len]; exact h2, hk⟩)), ⟨lo, hr.mod hm (fun k hk e => (hn k e).2 hk)⟩, h.ob, h.qb⟩
theorem LyI.drop {g : Nat} (h : LyI B0 B1 W3 wr n0 n1 (i + 1) ao co (some ⟨g, 0, none⟩) cq es qs) (hi : i < n1) (e' : Qe) : LyI B0 B1 W3 (wr.setCell ⟨g, i, none⟩ (sV e')) n0 n1 (i + 1) ao co (some ⟨g, 0, none⟩) cq (es.set i e') qs := by
  have hie : i < es.length := by rw [h.len]; exact hi
  have hg : qfp (i + 1) (some ⟨g, 0, none⟩) es g := .inl rfl
  have hm : Mod (fun j => j = g) wr (wr.setCell ⟨g, i, none⟩ (sV e')) := (Mod.refl (fun j => j = g) wr).setCell (.inl rfl) _
  obtain ⟨lo, hr⟩ := h.own
  have hq := qfp_low (lo := i + 1) (a := some ⟨g, 0, none⟩) (e' := e') hie (Nat.lt_succ_self _)
  refine ⟨Mod.trans h.mod hm (fun j hj => .inl (by rw [hj]; exact h.qb g hg)), h.ql.drop hie (Nat.lt_succ_self _) e', by rw [List.length_set]; exact h.len, fun j h1 => ?_, fun j h1 h2 => ?_, ⟨lo, hr.mod hm (fun j hj e => (h.ob j hj).2.2 (by rw [e]; exact hg))⟩, fun j hj => ⟨(h.ob j hj).1, (h.ob j hj).2.1, fun e => (h.ob j hj).2.2 (hq j e)⟩, fun j hj => h.qb j (hq j hj)⟩
  · rw [eAt_set hie, if_neg (by omega)]
    exact h.same j h1
  · rw [eAt_set hie, if_neg (by omega)]
    exact (h.mks j h1 h2).mod hm (fun k hk e => (h.ql.qb j h1 (by rw [h.len]; exact h2) k hk).2 (by rw [e]; rfl))
theorem LyB.toI {w : World} {os : List Int} (h : LyB w wr n0 ao co aq cq os es) (hW : Below wr.heap.size wr W3) (hl : es.length = n1) (hq : qsOf es = qs) (ho : os.length = n0) : LyI w.heap.size wr.heap.size W3 W3 n0 n1 0 ao co aq cq es qs := by
  have h2 := h.below hW
  have hs : ∀ j, (eAt es j).2.2 = qAt qs j := fun j => by rw [← hq, qAt_of]
  refine ⟨Mod.refl _ _, h2.ql, hl, fun j _ => hs j, fun j _ hj => by rw [← hs j]; exact h2.mks j (by rw [hl]; exact hj), ⟨os, ?_⟩, fun k hk => ⟨(h.ob k hk).1, h.own.lt k hk, (h.ob k hk).2⟩, fun k hk => ⟨h.ql.ge k hk, h.ql.lt k hk⟩⟩
  have hcut := h2.own.cut n0 co (by omega) (by have := h2.own.capLe; omega) (Nat.le_refl _) h2.own.room
  rw [Nat.mul_one, iC_app, List.take_append_of_le_length (by rw [iC_len, ho]; omega), List.take_of_length_le (by rw [iC_len, ho]; omega)] at hcut
  exact hcut
end
end Go.Proofs.Ytdihbbpndijdoaa
