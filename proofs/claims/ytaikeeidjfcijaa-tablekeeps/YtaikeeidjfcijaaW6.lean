/- New: a table, or what is wrong. -/
import Derived.Test.YtaikeeidjfcijaaW5
import Derived.Deep.RegionWith
import Derived.Deep.Cut
import Derived.Deep.CutRange
namespace Go.Proofs.Ytaikeeidjfcijaa
open Go.RowKit Go.Maps

theorem run_mk (n : Nat) (w : World) : (Instr.makeMap 52 (some (.int .i64 n))).run Try.prog w = .ok (.map (some w.heap.size)) (w.alloc (.map #[] 0)) := by
  simp [Instr.makeMap, run_underlying Try.underlying52, asInt, asIntOf]

/-- A table under way: k labels are in its map. -/
structure TabTo (B : Nat) (w : World) (tb lb cap mb : Nat) (c : List Nat) (k : Nat) : Prop where
  c0 : w.cell? ⟨tb, 0, none⟩ = some (.slice (some ⟨lb, 0, none⟩) c.length cap)
  c1 : w.cell? ⟨tb, 1, none⟩ = some (.map (some mb))
  lab : ∀ i, i < c.length → w.cell? ⟨lb, i, none⟩ = some (.int .u64 (c.getD i 0 : Nat))
  own : w.ownsMap Try.prog 35 (plainElem Try.prog 3) mb k (tabMap c k)
  cap : c.length ≤ cap
  bt : B ≤ tb
  bl : B ≤ lb
  bm : B ≤ mb
  ntm : tb ≠ mb
  nlm : lb ≠ mb

theorem may_ok_len {l : List Nat} (h : (mayL l).1 = 0) : 0 < l.length ∧ l.length ≤ 8 := by
  unfold mayL at h
  split at h
  · simp at h
  · split at h
    · simp at h
    · omega

set_option maxRecDepth 100000 in
set_option maxHeartbeats 1000000 in
theorem new_no (a : Option Addr) (cap : Nat) (l : List Nat) (w : World) (hC : Cells w a (labCells l)) (hno : (mayL l).1 ≠ 0) :
    Calls Try.prog 12 #[.slice a l.length cap] w fun e w' => e = .returned (.tuple #[.pointer none, .int .i64 (mayL l).1, .int .i64 (mayL l).2]) ∧ ∃ n, w' = w.drewN n := by
  have hmay := may_any a cap l w hC
  generalize mayL l = p at *
  obtain ⟨e, at0⟩ := p
  have hne : ((e : Int) == 0) = false := by rw [beq_eq_false_iff_ne]; simp at hno; omega
  have hne' : ((e : Int) != 0) = true := by simp at hno ⊢; omega
  clear hno hC
  simp only at hmay ⊢
  go_enter Try.func12, Try.ntmps12
  go_wp2_with (go_at_call 10; refine hmay.mono ?_; rintro e w' ⟨rfl, hd⟩)
  go_ret3
  exact ⟨rfl, hd⟩

/-- What the clone leaves, spelt out. -/
theorem owns_shape {w : World} {B n : Nat} {v : Value} {l : List Nat} (h : w.ownsRow B 35 1 v n (labCells l)) (hn : n = l.length) (hp : 0 < l.length) :
    ∃ g cp, v = .slice (some ⟨g, 0, none⟩) l.length cp ∧ B ≤ g ∧ l.length ≤ cp ∧ (∃ cur, w.heap[g]? = some (.cells cur 35 (0, 0))) ∧ ∀ i, i < l.length → w.cell? ⟨g, i, none⟩ = some (.int .u64 (l.getD i 0 : Nat)) := by
  subst hn
  obtain ⟨h1, h2⟩ := h
  rcases h2 with ⟨rfl, h0⟩ | ⟨g, cap, cur, rfl, hg, hh, hn, hm, hs, ht⟩
  · omega
  · refine ⟨g, cap, rfl, hg, hn, ⟨cur, hh⟩, fun i hi => ?_⟩
    have := World.ownsRow.cellAt (w := w) (base := B) (e := 35) (size := 1) (g := g) (n := l.length) (cap := cap) (xs := labCells l) ⟨h1, .inr ⟨g, cap, cur, rfl, hg, hh, hn, hm, hs, ht⟩⟩ i (by omega)
    rw [this, lab_at l i hi]

theorem cell_alloc_keep {w : World} {p : Addr} {v : Value} (o : Obj) (h : w.cell? p = some v) : (w.alloc o).cell? p = some v :=
  (World.cell?_of_block (w := w) (Below.heap_alloc w o p.block (World.block_lt_of_cell? w p h))).trans h

theorem tabTo_a {B : Nat} {w1 : World} {g cp : Nat} {l : List Nat} (hs : B ≤ w1.heap.size) (hg : B ≤ g) (hcp : l.length ≤ cp) (hcur : ∃ cur, w1.heap[g]? = some (.cells cur 35 (0, 0))) (hlab : ∀ i, i < l.length → w1.cell? ⟨g, i, none⟩ = some (.int .u64 (l.getD i 0 : Nat))) :
    TabTo B ((w1.alloc (.map #[] 0)).alloc (.cells #[.slice (some ⟨g, 0, none⟩) l.length cp, .map (some w1.heap.size)] 54)) (w1.heap.size + 1) g cp w1.heap.size l 0 where
  c0 := by have e : w1.heap.size + 1 = (w1.alloc (.map #[] 0)).heap.size := by simp
           rw [e]; simp
  c1 := by have e : w1.heap.size + 1 = (w1.alloc (.map #[] 0)).heap.size := by simp
           rw [e]; simp
  lab := fun i hi => cell_alloc_keep _ (cell_alloc_keep _ (hlab i hi))
  own := (World.ownsMap_made _ _ _ _).alloc _
  cap := hcp
  bt := by omega
  bl := hg
  bm := hs
  ntm := by omega
  nlm := fun e => by
    obtain ⟨cur, hc⟩ := hcur
    have := lt_of_block hc
    omega

theorem tabTo_b {B : Nat} {w0 w1 : World} {g cp : Nat} {l : List Nat} (hb : Below (w0.alloc (.map #[] 0)).heap.size (w0.alloc (.map #[] 0)) w1) (hs : B ≤ w0.heap.size) (hg : (w0.alloc (.map #[] 0)).heap.size ≤ g) (hcp : l.length ≤ cp) (hlab : ∀ i, i < l.length → w1.cell? ⟨g, i, none⟩ = some (.int .u64 (l.getD i 0 : Nat))) :
    TabTo B (w1.alloc (.cells #[.slice (some ⟨g, 0, none⟩) l.length cp, .map (some w0.heap.size)] 54)) w1.heap.size g cp w0.heap.size l 0 where
  c0 := by simp
  c1 := by simp
  lab := fun i hi => cell_alloc_keep _ (hlab i hi)
  own := (ownsMap_below (World.ownsMap_made w0 _ _ _) hb (by simp)).alloc _
  cap := hcp
  bt := by have := hb.size; simp at this; omega
  bl := by simp at hg; omega
  bm := hs
  ntm := by have := hb.size; simp at this; omega
  nlm := by simp at hg; omega

theorem TabTo.put {B k : Nat} {w w1 : World} {tb lb cp mb : Nat} {l : List Nat} (h : TabTo B w tb lb cp mb l k) (hown : w1.ownsMap Try.prog 35 (plainElem Try.prog 3) mb (k + 1) ((tabMap l k).put (.int .u64 (l.getD k 0 : Nat)) (.lit (.int .i64 (k : Nat))))) (hg : w.grownBy w1 (some mb)) : TabTo B w1 tb lb cp mb l (k + 1) where
  c0 := hg.cell h.c0 (by simp [h.ntm])
  c1 := hg.cell h.c1 (by simp [h.ntm])
  lab := fun i hi => hg.cell (h.lab i hi) (by simp [h.nlm])
  own := hown
  cap := h.cap
  bt := h.bt
  bl := h.bl
  bm := h.bm
  ntm := h.ntm
  nlm := h.nlm

set_option maxRecDepth 100000 in
set_option maxHeartbeats 2000000 in
theorem new_yes (a : Option Addr) (cap : Nat) (l : List Nat) (w : World) (hC : Cells w a (labCells l)) (hyes : mayL l = (0, 0)) (hw : ∀ i, l.getD i 0 < 18446744073709551616) :
    Calls Try.prog 12 #[.slice a l.length cap] w fun e w' => ∃ tb lb cp mb, e = .returned (.tuple #[.pointer (some ⟨tb, 0, none⟩), .int .i64 0, .int .i64 0]) ∧ Tab w' tb lb cp mb l ∧ Below w.heap.size w w' := by
  have hmay := may_any a cap l w hC
  have hlen := may_ok_len (l := l) (by rw [hyes])
  rw [hyes] at hmay
  have hmk := run_mk l.length
  have hcl : ∀ W, Below w.heap.size w W → Calls Try.prog 30 #[.slice a l.length cap] W fun e w' => ∃ v, e = .returned v ∧ w'.ownsRow W.heap.size 35 1 v l.length (labCells l) ∧ Below W.heap.size W w' := fun W hb => clone_any a cap l W (hC.kept hb) (by omega)
  go_enter Try.func12, Try.ntmps12
  go_upto_region 4 with (go_at_call 10; refine hmay.mono ?_; rintro e w0 ⟨rfl, hd⟩; have hb0 : Below w.heap.size w w0 := by (obtain ⟨n, rfl⟩ := hd; exact below_drewN (Below.refl _ _) n))
  clear hd
  go_cut [7] from 19 to 25 (fun s wx => ∃ tb lb cp mb, s = .pointer (some ⟨tb, 0, none⟩) ∧ TabTo w.heap.size wx tb lb cp mb l 0 ∧ Below w.heap.size w wx)
  case first =>
    go_region_with (go_at_call 30; refine (hcl _ ?_).mono ?_; (first | exact hb0.drew | exact hb0.drew.alloc (by simpa using hb0.size) _); rintro e w1 ⟨v, rfl, ho, hb1⟩; obtain ⟨g, cp, rfl, hg, hcp, hcur, hlab⟩ := owns_shape ho rfl hlen.1; clear ho)
    · go_wp2_with fail
      go_meet
      case rel =>
        have hs1 : w0.heap.size ≤ w1.heap.size := hb1.size
        have hs0 : w.heap.size ≤ w0.heap.size := hb0.size
        have hg' : w0.heap.size ≤ g := hg
        exact ⟨_, _, _, _, rfl, tabTo_a (by omega) (by omega) hcp hcur hlab, ((hb0.drew.trans (hb1.mono hs0)).alloc (by omega) _).alloc (by simp; omega) _⟩
    · go_wp2_with fail
      go_meet
      case rel =>
        have hs0 : w.heap.size ≤ w0.heap.size := hb0.size
        have hb1' : Below (w0.alloc (.map #[] 0)).heap.size (w0.alloc (.map #[] 0)) w1 := ((Below.refl _ _).drew).trans hb1
        have hs1' := hb1'.size
        simp at hs1'
        exact ⟨_, _, _, _, rfl, tabTo_b hb1' hs0 hg hcp hlab, (((hb0.alloc hs0 _).trans (hb1'.mono (by simp; omega))).alloc (by omega) _)⟩
  case rest =>
    obtain ⟨tb, lb, cp, mb, rfl, hT, hbel⟩ := hcut
    clear hb0 hmay hcl
    have hbC := hC.kept hbel
    obtain ⟨b, off, rfl, hc⟩ := hC (lab_ne l 0 hlen.1)
    clear hC hbC
    go_wp2
    go_loopw [28] (fun i wr => ∃ k : Nat, k ≤ l.length ∧ i = .int .i64 k ∧ TabTo w.heap.size wr tb lb cp mb l k ∧ Below w.heap.size w wr) (fun i _ => l.length - (intOf i).toNat)
    case atStart => exact ⟨0, Nat.zero_le _, rfl, hT, hbel⟩
    case round =>
      obtain ⟨k, hk, rfl, hTr, hbr⟩ := hrel
      clear hT hbel
      by_cases hlt : k < l.length
      · have hx0 := hc k _ (lab_at l k hlt)
        have hx : wr.cell? ⟨b, off + k, none⟩ = some (.int .u64 (l.getD k 0 : Nat)) := (hbr.cell (World.block_lt_of_cell? w _ hx0)).trans hx0
        have hc1 := hTr.c1
        have hown := hTr.own
        have hwk : (Lit.int .u64 ((l.getD k 0 : Nat) : Int)).wf = true := WalkArith.wf_u64 (by have := hw k; omega)
        have hkey : keyOf Try.prog 35 (.int .u64 (l.getD k 0 : Nat)) = some (.int .u64 (l.getD k 0 : Nat)) := keyOf_int_mk Try.underlying35 hwk
        have hput := fun w1 => @TabTo.put _ _ wr w1 _ _ _ _ _ hTr
        have hE : Hid (l.getD k 0 = l.getD k 0) := rfl
        generalize l.getD k 0 = x at hx hkey hput
        clear hc hwk hx0
        go_wp2_with (first | (at_mapUpdate; refine wpList_mapUpdate_own _ rfl _ _ _ 52 rfl 35 3 law35 Try.underlying52 _ mb k _ rfl hown (by unfold maxLen; omega) _ _ _ rfl rfl hkey _ [] (plainElem_int Try.underlying3 (WalkArith.wf_i64 (by omega))) ?_; intro w1 hown1 hgrow1) | go_in)
        go_roundw
        case rel => exact ⟨k + 1, by omega, by go_num, hput _ hown1 hgrow1, hbr.grown hgrow1 hbr.size (fun j hj => by cases hj; exact hTr.bm)⟩
        case measure => simp [intOf]; omega
      · have e : k = l.length := by omega
        subst e
        go_wp2
        go_ret3
        exact ⟨tb, lb, cp, mb, rfl, ⟨hTr.c0, hTr.c1, hTr.lab, hTr.own, hw, hlen.2, hTr.cap, hlen.1⟩, hbr⟩
end Go.Proofs.Ytaikeeidjfcijaa
