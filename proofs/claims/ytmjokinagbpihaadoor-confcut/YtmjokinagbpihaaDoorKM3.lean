/- The document's Put, onto bytes of the call's own. -/
import Derived.Test.YtmjokinagbpihaaDoorKM2
import Derived.Test.YtmjokinagbpihaaDoorQE2
namespace Go.Proofs.YtmjokinagbpihaaDoor
open Go.RowKit

theorem Gr.pushN {w W : World} {a : Option Addr} {n c : Nat} {bs : List Nat} (h : Gr w W a n c bs) (hn : n ≤ 1000000000) (ys : List Nat) {m : Nat} (hm : ys.length = m) (hml : m ≤ 1000000) {cs : Array Value} (hcs : cs = (bCells ys).toArray) :
    ∃ a' c' W', (∀ ty, (Builtin.append_ #[31, 31] ty #[.slice a n c, .slice (some ⟨W.heap.size, 0, none⟩) m m]).run Tryd.prog (W.alloc (.cells cs 5)) = .ok (.slice a' (n + m) c') W') ∧ Gr w W' a' (n + m) c' (bs ++ ys) ∧ GrTo W a W' a' := by
  subst hcs
  have hb := below_al W (.cells (bCells ys).toArray 5)
  have hR : Rd (W.alloc (.cells (bCells ys).toArray 5)) (some ⟨W.heap.size, 0, none⟩) (bCells ys) := fun j u hj => ⟨_, 0, rfl, by
    rw [Nat.zero_add, cell_of_row _ _ _ _ _ _ (heap_alloc_new W _)]
    simpa using hj⟩
  obtain ⟨a', c', W', k1, k2, k3⟩ := (h.below hb).app hn hR (c2 := m) hm (by omega)
  exact ⟨a', c', W', k1, k2, k3.ahead hb⟩

set_option maxRecDepth 100000 in
set_option maxHeartbeats 2000000 in
theorem dput_any {w W : World} {a : Option Addr} {n c : Nat} {bs : List Nat} (h : Gr w W a n c bs) (hn : n ≤ 900000000) (x : Ins) :
    Calls Tryd.prog 39 #[.slice a n c, insV x] W fun e W' => ∃ a' c', e = .returned (.slice a' (n + 12) c') ∧ Gr w W' a' (n + 12) c' (bs ++ insB x) ∧ GrTo W a W' a' := by
  have hins : Hid (insB x = [b8 x.op, b8 x.a, b8 x.b, b8 x.c] ++ (List.range 8).map (byteAt x.imm)) := hd rfl
  have e0 := mod_b8 x.op
  have e1 := mod_b8 x.a
  have e2 := mod_b8 x.b
  have e3 := mod_b8 x.c
  have e4 := mod_u64 x.imm
  have hY : Hid (∀ j, byteAt x.imm j = Go.Proofs.YtmjokinagbpihaaDoor.u64 x.imm / 2 ^ (8 * j) % 256) := hd fun j => rfl
  generalize b8 x.op = p0 at *
  generalize b8 x.a = p1 at *
  generalize b8 x.b = p2 at *
  generalize b8 x.c = p3 at *
  generalize Go.Proofs.YtmjokinagbpihaaDoor.u64 x.imm = U at *
  generalize byteAt x.imm = Y at *
  generalize insB x = X at *
  obtain ⟨xo, xa, xb, xc, i⟩ := x
  unfold insV
  simp only at *
  obtain ⟨W1, hW1⟩ : ∃ V, Hid (W.alloc (.cells #[.int .i64 xo, .int .i64 xa, .int .i64 xb, .int .i64 xc, .int .i64 i] 71) = V) := ⟨_, rfl⟩
  have b1 : Hid (Below W.heap.size W W1) := hd (by rw [← hW1.out]; exact below_al W _)
  have HG : Hid (W1.heap[W.heap.size]? = some (.cells #[.int .i64 xo, .int .i64 xa, .int .i64 xb, .int .i64 xc, .int .i64 i] 71 (0, 0))) := hd (by rw [← hW1.out]; exact heap_alloc_new W _)
  have HNe : Hid (∀ k, blk a = some k → k < W.heap.size) := hd h.row.lt
  have H1 := hd (h.below b1.out)
  obtain ⟨G, hG⟩ : ∃ G, Hid (W.heap.size = G) := ⟨_, rfl⟩
  rw [hG.out] at HG HNe
  have HK : Hid (∀ V a', GrTo W1 a V a' → V.heap[G]? = some (.cells #[.int .i64 xo, .int .i64 xa, .int .i64 xb, .int .i64 xc, .int .i64 i] 71 (0, 0))) := hd (fun V a' hV => (hV.mod.block G (Array.getElem?_eq_some_iff.1 HG.out).1 (fun e => by have := HNe.out G e; omega)).trans HG.out)
  obtain ⟨a1, c1, W2, hap, hg2, ht2⟩ := H1.out.pushN (by omega) [p0, p1, p2, p3] (m := 4) rfl (by omega) (cs := #[.int .u8 (p0 : Int), .int .u8 (p1 : Int), .int .u8 (p2 : Int), .int .u8 (p3 : Int)]) rfl
  replace hap := hd hap
  replace hg2 := hd hg2
  replace ht2 := hd ht2
  have x0 := cell_of_row W1 G 0 _ _ _ HG.out
  have x1 := cell_of_row W1 G 1 _ _ _ HG.out
  have x2 := cell_of_row W1 G 2 _ _ _ HG.out
  have x3 := cell_of_row W1 G 3 _ _ _ HG.out
  simp at x0 x1 x2 x3
  clear h H1
  go_enter Tryd.func39, Tryd.ntmps39
  go_upto_region 1 with fail
  rw [hW1.out, hG.out]
  go_upto_block 0 with (at_builtin; refine wpList_append_run rfl _ _ _ rfl _ _ _ _ rfl rfl hap.out ?_; clear hap)
  clear x0 x1 x2 x3 e0 e1 e2 e3 hW1
  go_wp2_with fail
  go_loopg [0, 5, 21, 22, 23, 24, 25, 26, 27, 28, 29, 30, 31, 32, 33, 34] 8 (fun g v0 v5 v21 v22 v23 v24 v25 v26 v27 v28 v29 v30 v31 v32 v33 v34 wr => ∃ (j : Nat) (a' : Option Addr) (c' : Nat), j + g = 8 ∧ v5 = .int .i64 (j : Int) ∧ v0 = .slice a' (n + 4 + j) c' ∧ Hid (Gr w wr a' (n + 4 + j) c' (bs ++ [p0, p1, p2, p3] ++ (List.range j).map Y) ∧ GrTo W1 a wr a'))
  case atStart => exact ⟨0, a1, c1, by omega, by go_num, rfl, hd ⟨by simpa using hg2.out, ht2.out⟩⟩
  case round =>
    clear hg2 ht2
    obtain ⟨j, a', c', hj, rfl, rfl, HW⟩ := hrel
    by_cases h0 : gk = 0
    · subst h0
      obtain rfl : j = 8 := by omega
      have HE : Hid (Gr w wr a' (n + 12) c' (bs ++ X) ∧ GrTo W a wr a') := hd (by
        have h1 := HW.out.1
        rw [List.append_assoc, ← hins.out] at h1
        exact ⟨h1, HW.out.2.ahead b1.out⟩)
      go_wp2_with fail
      go_ret
      exact ⟨a', c', rfl, HE.out⟩
    · have ev := byte_val e4 (hY.out j)
      have hR : Hid ((List.range (j + 1)).map Y = (List.range j).map Y ++ [Y j]) := hd (by rw [List.range_succ]; simp)
      have hlt : j < 8 := by omega
      obtain ⟨a2, c2, w2, hap, hg, ht⟩ := HW.out.1.push (by omega) (Y j)
      rw [List.append_assoc (bs ++ [p0, p1, p2, p3]), ← hR.out] at hg
      have HN := hd (And.intro hg (HW.out.2.trans ht))
      replace hap := hd hap
      have x4 := cell_of_row wr G 4 _ _ _ (HK.out wr a' HW.out.2)
      simp at x4
      clear hg ht HW hR
      generalize Y j = y at *
      go_wp2_with (at_builtin; refine wpList_append_run rfl _ _ _ rfl _ _ _ _ rfl rfl hap.out ?_; clear hap)
      go_roundg (gk - 1)
      case rel => exact ⟨j + 1, a2, c2, by omega, by go_num, rfl, HN⟩
      case measure => omega
end Go.Proofs.YtmjokinagbpihaaDoor
