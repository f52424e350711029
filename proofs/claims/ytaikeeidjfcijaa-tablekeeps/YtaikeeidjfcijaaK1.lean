/- Rows of the call's own that are written over and appended to; New with its blocks; kept. -/
import Derived.Test.YtaikeeidjfcijaaW15
import Derived.Test.YtaikeeidjfcijaaW16
import Derived.Deep.AppendLies
namespace Go.Proofs.Ytaikeeidjfcijaa
open Go.RowKit Go.Maps

theorem grown_step {ws wr w1 : World} {gx ob : Option Nat} (h : ws.grownBy wr gx) (k : wr.grownBy w1 ob) (hl : ∀ b, ob = some b → some b = gx ∨ ws.heap.size ≤ b) : ws.grownBy w1 gx :=
  ⟨k.os.trans h.os, k.tape.trans h.tape, k.output.trans h.output, Nat.le_trans h.size k.size, fun b hb hne =>
    (k.block b (Nat.lt_of_lt_of_le hb h.size) (fun e => by
      rcases hl b e.symm with h1 | h1
      · exact hne h1
      · omega)).trans (h.block b hb hne)⟩

/-- A row of the call's own, in the world wr: it began at the block gx (or anew) in the world ws; but for that block ws is as it was. -/
structure Chain (ws : World) (gx : Option Nat) (e : TypeId) (v : Value) (n : Nat) (xs : List Value) (wr : World) : Prop where
  own : wr.ownsRow 0 e 1 v n xs
  lies : ∀ b, v.ownBlock = some b → some b = gx ∨ ws.heap.size ≤ b
  grown : ws.grownBy wr gx

theorem ownsRow_zero {w : World} {B n : Nat} {e : TypeId} {v : Value} {xs : List Value} (h : w.ownsRow B e 1 v n xs) : w.ownsRow 0 e 1 v n xs := by
  obtain ⟨h1, h2⟩ := h
  refine ⟨h1, ?_⟩
  rcases h2 with h2 | ⟨g, cap, cur, h2, _, h3⟩
  · exact .inl h2
  · exact .inr ⟨g, cap, cur, h2, Nat.zero_le _, h3⟩

theorem Chain.start {w : World} {B n : Nat} {e : TypeId} {v : Value} {xs : List Value} (h : w.ownsRow B e 1 v n xs) : Chain w v.ownBlock e v n xs w :=
  ⟨ownsRow_zero h, fun _ hb => .inl hb.symm, World.grownBy.refl _ _⟩

theorem Chain.put {ws wr : World} {gx : Option Nat} {e : TypeId} {g n cap : Nat} {xs : List Value} (h : Chain ws gx e (.slice (some ⟨g, 0, none⟩) n cap) n xs wr) (i : Nat) (u : Value) :
    Chain ws gx e (.slice (some ⟨g, 0, none⟩) n cap) n (xs.set i u) (wr.setCell ⟨g, i, none⟩ u) := by
  have h1 := h.own.stored i u
  exact ⟨h1.1, h.lies, grown_step h.grown h1.2 (fun b hb => h.lies b (by rw [← hb]; rfl))⟩

theorem Chain.alloc {ws wr : World} {gx : Option Nat} {e : TypeId} {v : Value} {n : Nat} {xs : List Value} (h : Chain ws gx e v n xs wr) (o : Obj) : Chain ws gx e v n xs (wr.alloc o) :=
  ⟨h.own.alloc o, h.lies, grown_step h.grown (World.grownBy_alloc wr o none) (fun b hb => by cases hb)⟩

theorem Chain.drewN {ws wr : World} {gx : Option Nat} {e : TypeId} {v : Value} {n : Nat} {xs : List Value} (h : Chain ws gx e v n xs wr) (q : Nat) : Chain ws gx e v n xs (wr.drewN q) :=
  ⟨h.own, h.lies, grown_step h.grown (grownBy_drewN wr q none) (fun b hb => by cases hb)⟩

theorem Chain.append {ws wr w1 : World} {gx : Option Nat} {e : TypeId} {v : Value} {n m g cap : Nat} {xs ys : List Value} (h : Chain ws gx e v n xs wr)
    (hown : w1.ownsRow 0 e 1 (.slice (some ⟨g, 0, none⟩) m cap) m ys) (hg : wr.grownBy w1 v.ownBlock) (hat : v.ownBlock = some g ∨ g = wr.heap.size) : Chain ws gx e (.slice (some ⟨g, 0, none⟩) m cap) m ys w1 := by
  refine ⟨hown, fun b hb => ?_, grown_step h.grown hg h.lies⟩
  have hb' : g = b := by simpa [Value.ownBlock] using hb
  subst hb'
  rcases hat with h1 | h1
  · exact h.lies g h1
  · exact .inr (by rw [h1]; exact h.grown.size)

/-- What came before the row began, at another block, is as it was. -/
theorem owns_grown {w w' : World} {gx : Option Nat} {B n : Nat} {e : TypeId} {v : Value} {xs : List Value} (h : w.ownsRow B e 1 v n xs) (hg : w.grownBy w' gx) (hne : ∀ b, v.ownBlock = some b → some b ≠ gx) : w'.ownsRow B e 1 v n xs := by
  obtain ⟨h1, h2⟩ := h
  refine ⟨h1, ?_⟩
  rcases h2 with h2 | ⟨g, cap, cur, rfl, h3, h4, h5⟩
  · exact .inl h2
  · refine .inr ⟨g, cap, cur, rfl, h3, ?_, h5⟩
    rw [hg.block g (by
      rcases Nat.lt_or_ge g w.heap.size with hx | hx
      · exact hx
      · rw [Array.getElem?_eq_none hx] at h4; cases h4) (hne g rfl)]
    exact h4

theorem owns_below {w w' : World} {B n : Nat} {e : TypeId} {v : Value} {xs : List Value} (h : w.ownsRow B e 1 v n xs) (hb : Below w.heap.size w w') : w'.ownsRow B e 1 v n xs :=
  owns_grown (gx := none) h ⟨hb.os, hb.tape, hb.output, hb.size, fun k hk _ => hb.block k hk⟩ (fun b _ => by simp)

theorem tab_grown {w w' : World} {gx : Option Nat} {tb lb cap mb : Nat} {c : List Nat} (h : Tab w tb lb cap mb c) (hg : w.grownBy w' gx) (h1 : some tb ≠ gx) (h2 : some lb ≠ gx) (h3 : some mb ≠ gx) : Tab w' tb lb cap mb c where
  c0 := hg.cell h.c0 h1
  c1 := hg.cell h.c1 h1
  lab := fun i hi => hg.cell (h.lab i hi) h2
  own := by
    have e := hg.block mb h.own.lt h3
    have := h.own
    unfold World.ownsMap at *
    rw [e]
    exact this
  wf := h.wf
  len := h.len
  cap := h.cap
  pos := h.pos

theorem below_chain {B : Nat} {w ws wr : World} {gx : Option Nat} (hb : Below B w ws) (hs : B ≤ ws.heap.size) (hg : ws.grownBy wr gx) (hne : ∀ b, gx = some b → B ≤ b) : Below B w wr := hb.grown hg hs (fun k hk => hne k hk)

theorem set_tail {xs : List Value} {i : Nat} {u : Value} {Q : Nat → Value → Prop} {n : Nat} (h : ∀ t, i ≤ t → t < n → ∃ y, xs[t]? = some y ∧ Q t y) : ∀ t, i + 1 ≤ t → t < n → ∃ y, (xs.set i u)[t]? = some y ∧ Q t y := fun t ht hn => by
  obtain ⟨y, h1, h2⟩ := h t (by omega) hn
  exact ⟨y, by rw [List.getElem?_set_ne (by omega)]; exact h1, h2⟩

set_option maxRecDepth 100000 in
set_option maxHeartbeats 2000000 in
theorem new_at (a : Option Addr) (cap : Nat) (l : List Nat) (w : World) (hC : Cells w a (labCells l)) (hyes : mayL l = (0, 0)) (hw : ∀ i, l.getD i 0 < 18446744073709551616) :
    Calls Try.prog 12 #[.slice a l.length cap] w fun e w' => ∃ tb lb cp mb, e = .returned (.tuple #[.pointer (some ⟨tb, 0, none⟩), .int .i64 0, .int .i64 0]) ∧ Tab w' tb lb cp mb l ∧ Below w.heap.size w w' ∧ w.heap.size ≤ tb ∧ w.heap.size ≤ lb ∧ w.heap.size ≤ mb := by
  have hmay := may_any a cap l w hC
  have hlen := may_ok_len (l := l) (by rw [hyes])
  rw [hyes] at hmay
  have hmk := run_mk l.length
  have hcl : ∀ W, Below w.heap.size w W → Calls Try.prog 30 #[.slice a l.length cap] W fun e w' => ∃ v, e = .returned v ∧ w'.ownsRow W.heap.size 35 1 v l.length (labCells l) ∧ Below W.heap.size W w' := fun W hb => clone_any a cap l W (hC.kept hb) (by omega)
  go_enter Try.func12, Try.ntmps12
  go_upto_region 4 with (go_at_call 10; refine hmay.mono ?_; rintro e w0 ⟨rfl, hd⟩; have hb0 : Below w.heap.size w w0 := by (obtain ⟨n, rfl⟩ := hd; exact below_drewN (Below.refl _ _) n))
  clear hd
  go_cut [7] from 19 to 25 (fun s wx => ∃ tb lb cp mb, s = .pointer (some ⟨tb, 0, none⟩) ∧ TabTo w.heap.size wx tb lb cp mb l 0 ∧ Below w.heap.size w wx)
  case first =>
    go_region_with (go_at_call 30; refine (hcl _ ?_).mono ?_; (first | exact hb0.drew | exact hb0.drew.alloc (by simpa using hb0.size) _); rintro e w1 ⟨v, rfl, ho, hb1⟩; obtain ⟨g, cp, rfl, hg, hcp, hcur, hlab⟩ := owns_shape ho rfl hlen.1; clear ho)
    · go_wp2_with fail
      go_meet
      case rel =>
        have hs1 : w0.heap.size ≤ w1.heap.size := hb1.size
        have hs0 : w.heap.size ≤ w0.heap.size := hb0.size
        have hg' : w0.heap.size ≤ g := hg
        exact ⟨_, _, _, _, rfl, tabTo_a (by omega) (by omega) hcp hcur hlab, ((hb0.drew.trans (hb1.mono hs0)).alloc (by omega) _).alloc (by simp; omega) _⟩
    · go_wp2_with fail
      go_meet
      case rel =>
        have hs0 : w.heap.size ≤ w0.heap.size := hb0.size
        have hb1' : Below (w0.alloc (.map #[] 0)).heap.size (w0.alloc (.map #[] 0)) w1 := ((Below.refl _ _).drew).trans hb1
        have hs1' := hb1'.size
        simp at hs1'
        exact ⟨_, _, _, _, rfl, tabTo_b hb1' hs0 hg hcp hlab, (((hb0.alloc hs0 _).trans (hb1'.mono (by simp; omega))).alloc (by omega) _)⟩
  case rest =>
    obtain ⟨tb, lb, cp, mb, rfl, hT, hbel⟩ := hcut
    clear hb0 hmay hcl
    have hbC := hC.kept hbel
    obtain ⟨b, off, rfl, hc⟩ := hC (lab_ne l 0 hlen.1)
    clear hC hbC
    go_wp2
    go_loopw [28] (fun i wr => ∃ k : Nat, k ≤ l.length ∧ i = .int .i64 k ∧ TabTo w.heap.size wr tb lb cp mb l k ∧ Below w.heap.size w wr) (fun i _ => l.length - (intOf i).toNat)
    case atStart => exact ⟨0, Nat.zero_le _, rfl, hT, hbel⟩
    case round =>
      obtain ⟨k, hk, rfl, hTr, hbr⟩ := hrel
      clear hT hbel
      by_cases hlt : k < l.length
      · have hx0 := hc k _ (lab_at l k hlt)
        have hx : wr.cell? ⟨b, off + k, none⟩ = some (.int .u64 (l.getD k 0 : Nat)) := (hbr.cell (World.block_lt_of_cell? w _ hx0)).trans hx0
        have hc1 := hTr.c1
        have hown := hTr.own
        have hwk : (Lit.int .u64 ((l.getD k 0 : Nat) : Int)).wf = true := WalkArith.wf_u64 (by have := hw k; omega)
        have hkey : keyOf Try.prog 35 (.int .u64 (l.getD k 0 : Nat)) = some (.int .u64 (l.getD k 0 : Nat)) := keyOf_int_mk Try.underlying35 hwk
        have hput := fun w1 => @TabTo.put _ _ wr w1 _ _ _ _ _ hTr
        have hE : Hid (l.getD k 0 = l.getD k 0) := rfl
        generalize l.getD k 0 = x at hx hkey hput
        clear hc hwk hx0
        go_wp2_with (first | (at_mapUpdate; refine wpList_mapUpdate_own _ rfl _ _ _ 52 rfl 35 3 law35 Try.underlying52 _ mb k _ rfl hown (by unfold maxLen; omega) _ _ _ rfl rfl hkey _ [] (plainElem_int Try.underlying3 (WalkArith.wf_i64 (by omega))) ?_; intro w1 hown1 hgrow1) | go_in)
        go_roundw
        case rel => exact ⟨k + 1, by omega, by go_num, hput _ hown1 hgrow1, hbr.grown hgrow1 hbr.size (fun j hj => by cases hj; exact hTr.bm)⟩
        case measure => simp [intOf]; omega
      · have e : k = l.length := by omega
        subst e
        go_wp2
        go_ret3
        exact ⟨tb, lb, cp, mb, rfl, ⟨hTr.c0, hTr.c1, hTr.lab, hTr.own, hw, hlen.2, hTr.cap, hlen.1⟩, hbr, hTr.bt, hTr.bl, hTr.bm⟩

set_option maxRecDepth 100000 in
set_option maxHeartbeats 1000000 in
theorem kept_any (g cp : Nat) (a : Option Addr) (cap : Nat) (l : List Nat) (w : World) (hlen : l.length ≤ 1500000) (hW : ∀ i, i < l.length + 3 → w.cell? ⟨g, i, none⟩ = some (.int .u64 ((l ++ [161, 162, 163]).getD i 0 : Nat))) (hcp : l.length + 3 ≤ cp) (hC : Cells w a (labCells l)) :
    Calls Try.prog 29 #[.slice (some ⟨g, 0, none⟩) l.length cp, .slice a l.length cap] w fun e w' => e = .returned (.bool true) ∧ Below w.heap.size w w' := by
  have hCg : Cells w (some ⟨g, 0, none⟩) (labCells l) := fun _ => ⟨g, 0, rfl, fun i u hu => by
    have hi : i < l.length := by
      rcases Nat.lt_or_ge i l.length with h | h
      · exact h
      · rw [List.getElem?_eq_none (by rw [labCells_len]; exact h)] at hu; cases hu
    rw [lab_at l i hi] at hu
    cases hu
    rw [Nat.zero_add, hW i (by omega)]
    simp [List.getD_eq_getElem?_getD, List.getElem?_append_left hi]⟩
  have hCm : ∀ q t, Cells ((w.drewN q).alloc (.cells #[.int .u64 161, .int .u64 162, .int .u64 163] t)) (some ⟨g, l.length, none⟩) (labCells [161, 162, 163]) := fun q t _ => ⟨g, l.length, rfl, fun i u hu => by
    have hi : i < 3 := by
      rcases Nat.lt_or_ge i 3 with h | h
      · exact h
      · rw [List.getElem?_eq_none (by simp [labCells]; omega)] at hu; cases hu
    have hx := hW (l.length + i) (by omega)
    refine cell_alloc_keep (w := w.drewN q) _ (Eq.trans (b := w.cell? ⟨g, l.length + i, none⟩) rfl (hx.trans ?_))
    rw [lab_at [161, 162, 163] i (by simpa using hi)] at hu
    cases hu
    simp [List.getD_eq_getElem?_getD, List.getElem?_append_right]⟩
  have h1 := sameLabels_yes (some ⟨g, 0, none⟩) a cp cap l w hCg hC (by omega)
  go_enter Try.func29, Try.ntmps29
  go_wp2_with fail
  refine h1.mono ?_
  rintro e w1 ⟨rfl, n1, rfl⟩
  go_wp2_with fail
  refine (sameLabels_at 3 3 (some ⟨g, l.length, none⟩) (some ⟨w.heap.size, 0, none⟩) _ _ [161, 162, 163] _ rfl rfl (hCm n1 _) (cells_new (w.drewN n1) _ _) (by decide)).mono ?_
  rintro e w2 ⟨rfl, hb2⟩
  go_wp2
  go_ret
  exact ⟨rfl, ((below_drewN (Below.refl w.heap.size w) n1).alloc (Nat.le_refl _) _).trans (hb2.mono (by simp))⟩
end Go.Proofs.Ytaikeeidjfcijaa
