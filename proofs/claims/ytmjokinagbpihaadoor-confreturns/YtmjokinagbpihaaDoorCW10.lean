/- A program's bytes. -/
import Derived.Test.YtmjokinagbpihaaDoorCW9
namespace Go.Proofs.YtmjokinagbpihaaDoor
open Go.RowKit

set_option maxRecDepth 100000 in
set_option maxHeartbeats 4000000 in
theorem encode_ok (a : Option Addr) (cap : Nat) (l : List Ins) (w : World) (hP : Prg w a l) (hF : Fld w) (hm : (mayL l 8).1 = 0) :
    Calls Tryd.prog 37 #[.slice a l.length cap] w fun e w' => ∃ g cap', e = .returned (.tuple #[.slice (some ⟨g, 0, none⟩) (12 * l.length) cap', .int .i64 0, .int .i64 0]) ∧ w'.ownsRow w.heap.size 5 1 (.slice (some ⟨g, 0, none⟩) (12 * l.length) cap') (12 * l.length) (bCells (encB l)) ∧ Below w.heap.size w w' := by
  obtain ⟨i0, hi, hz0, hz1, hz2⟩ := info_parts info_u8
  have hlen := may_len hm
  have hmay := may_any a cap l 8 w hP hF
  rw [may_zero hm] at hmay
  have HP : Hid (Prg w a l) := hP
  clear hP hm hF
  go_enter Tryd.func37, Tryd.ntmps37
  go_wp2_with fail
  refine hmay.mono ?_
  rintro e w1 ⟨rfl, b1⟩
  have hs1 := b1.size
  go_wp2_with (at_make; refine wpList_make_own _ rfl _ _ 31 rfl w.heap.size 5 i0 (.int .u8 0) 1 Tryd.underlying31 hi hz0 hz1 .i64 .i64 _ (12 * l.length) rfl rfl (by omega) (by rw [hz2]; omega) (by unfold maxLen; omega) hs1 ?_; intro w2 hown2 hg2)
  have b2 : Below w.heap.size w w2 := b1.grown hg2 hs1 (fun k hk => by cases hk)
  clear b1 hs1 hg2 hmay
  go_loopw [7, 9, 10, 26, 45] (fun v7 _ _ v26 _ wr => ∃ i g cap : Nat, v26 = .int .i64 i ∧ i ≤ l.length ∧ v7 = .slice (some ⟨g, 0, none⟩) (12 * i) cap ∧ wr.ownsRow w.heap.size 5 1 (.slice (some ⟨g, 0, none⟩) (12 * i) cap) (12 * i) (bCells (encB (l.take i))) ∧ Below w.heap.size w wr) (fun _ _ _ v26 _ _ => l.length - (intOf v26).toNat)
  case atStart => exact ⟨0, _, _, rfl, Nat.zero_le _, rfl, hown2, b2⟩
  case round =>
    obtain ⟨q, g, cap, rfl, hq, rfl, hown, hbr⟩ := hrel
    clear hown2 b2
    by_cases hlt : q < l.length
    · have hlt' : (q : Int) < (l.length : Int) := by omega
      obtain ⟨bb, off, rfl, hx⟩ := HP.out q hlt
      have hx := hx.kept hbr
      have hE : Hid (encB (l.take (q + 1)) = _) := hd (enc_step l q hlt)
      obtain ⟨k0, k1, k2, k3, k4⟩ := hx
      generalize encB (l.take q) = bs at *
      generalize l.getD q default = x at *
      have hins : Hid (insB x = [b8 x.op, b8 x.a, b8 x.b, b8 x.c] ++ (List.range 8).map (byteAt x.imm)) := hd rfl
      have e0 := mod_b8 x.op
      have e1 := mod_b8 x.a
      have e2 := mod_b8 x.b
      have e3 := mod_b8 x.c
      have e4 := mod_u64 x.imm
      have hY : Hid (∀ j, byteAt x.imm j = u64 x.imm / 2 ^ (8 * j) % 256) := hd fun j => rfl
      generalize b8 x.op = p0 at *
      generalize b8 x.a = p1 at *
      generalize b8 x.b = p2 at *
      generalize b8 x.c = p3 at *
      generalize u64 x.imm = U at *
      generalize byteAt x.imm = Y at *
      generalize insB x = X at *
      obtain ⟨o, a, b, c, i⟩ := x
      simp only at *
      have hlg := hown.lt g rfl
      have hsz := hbr.size
      go_wp2_with (at_builtin; (refine wpList_append_lies _ rfl _ _ 31 rfl w.heap.size 5 i0 (.int .u8 0) 1 1 Tryd.underlying31 hi hz0 hz1 hz2 rfl (by decide) (.slice (some ⟨g, 0, none⟩) (12 * q) cap) _ _ rfl ((hown.alloc _).alloc _) ⟨_, 0, none⟩ 4 4 (bCells [p0, p1, p2, p3]) rfl rfl (cells_new [.int .u8 (p0 : Int), .int .u8 (p1 : Int), .int .u8 (p2 : Int), .int .u8 (p3 : Int)] _ (by simp)) (by simp [bCells, Value.oneCell']) (by decide) (by unfold maxLen; omega) (by omega) (by simp; omega) _ rfl ?_); intro g1 cap1 w1 hown1 hgrow1 hlies1 hlt1)
      have hb1 : Below w.heap.size w w1 := ((hbr.alloc (by omega) _).alloc (by simp; omega) _).grown hgrow1 (by simp; omega) (fun j hj => (hown.lt j hj).1)
      have hx4 : w1.cell? ⟨wr.heap.size, 4, none⟩ = some (.int .i64 i) := hgrow1.cell (by simp) (fun e => by
        have e' : wr.heap.size = g := by simpa [Value.ownBlock] using e
        omega)
      have hne : Hid (g1 ≠ wr.heap.size) := hd (by
        rcases hlies1 with h | h
        · have h' : g = g1 := by simpa [Value.ownBlock] using h
          omega
        · simp at h; omega)
      rw [bCells_app] at hown1
      clear hgrow1 hown hlies1 hlg hlt1 e0 e1 e2 e3 k0 k1 k2 k3 k4
      go_wp2_with fail
      go_loopw [7, 10, 45] (fun v7 _ v45 wq => ∃ j g cap : Nat, v45 = .int .i64 j ∧ j ≤ 8 ∧ v7 = .slice (some ⟨g, 0, none⟩) (12 * q + 4 + j) cap ∧ wq.ownsRow w.heap.size 5 1 (.slice (some ⟨g, 0, none⟩) (12 * q + 4 + j) cap) (12 * q + 4 + j) (bCells (bs ++ [p0, p1, p2, p3] ++ (List.range j).map Y)) ∧ Below w.heap.size w wq ∧ wq.cell? ⟨wr.heap.size, 4, none⟩ = some (.int .i64 i) ∧ Hid (g ≠ wr.heap.size)) (fun _ _ v45 _ => 8 - (intOf v45).toNat)
      case atStart => exact ⟨0, g1, cap1, rfl, by omega, rfl, by simpa using hown1, hb1, hx4, hne⟩
      case round =>
        rename World => wq
        obtain ⟨j, g, cap, rfl, hj, rfl, hown, hbw, hx, hg⟩ := hrel
        clear hown1 hb1 hx4 hne
        by_cases hlt : j < 8
        · have ev := byte_val e4 (hY.out j)
          have hR : Hid ((List.range (j + 1)).map Y = (List.range j).map Y ++ [Y j]) := hd (by rw [List.range_succ]; simp)
          generalize Y j = y at *
          have hsz := hbw.size
          have hlg := hown.lt g rfl
          have hlw := World.block_lt_of_cell? wq _ hx
          go_wp2_with (at_builtin; (refine wpList_append_lies _ rfl _ _ 31 rfl w.heap.size 5 i0 (.int .u8 0) 1 1 Tryd.underlying31 hi hz0 hz1 hz2 rfl (by decide) (.slice (some ⟨g, 0, none⟩) (12 * q + 4 + j) cap) _ _ rfl (hown.alloc _) ⟨_, 0, none⟩ 1 1 (bCells [y]) rfl rfl (cells_new [.int .u8 (y : Int)] _ (by simp)) (by simp [bCells, Value.oneCell']) (by decide) (by unfold maxLen; omega) (by omega) (by simp; omega) _ rfl ?_); intro g1 cap1 w1 hown1 hgrow1 hlies1 hlt1)
          have hb1' : Below w.heap.size w w1 := (hbw.alloc (by omega) _).grown hgrow1 (by simp; omega) (fun j hj => (hown.lt j hj).1)
          have hxx : w1.cell? ⟨wr.heap.size, 4, none⟩ = some (.int .i64 i) := hgrow1.cell (alloc_keeps _ hx) (fun e => by
            have e' : wr.heap.size = g := by simpa [Value.ownBlock] using e
            exact hg.out e'.symm)
          have hne : Hid (g1 ≠ wr.heap.size) := hd (by
            rcases hlies1 with h | h
            · have h' : g = g1 := by simpa [Value.ownBlock] using h
              rw [← h']; exact hg.out
            · simp at h hlw; omega)
          rw [bCells_app, List.append_assoc (bs ++ [p0, p1, p2, p3]), ← hR.out] at hown1
          clear hgrow1 hlies1 hlt1 hown hx hg
          go_roundw
          case rel => exact ⟨j + 1, g1, cap1, by go_num, by omega, by rw [Nat.add_assoc], hown1, hb1', hxx, hne⟩
          case measure => simp [intOf]; omega
        · have ej : j = 8 := by omega
          subst ej
          rw [List.append_assoc, ← hins.out, ← hE.out] at hown
          go_wp2_with fail
          go_roundw
          case rel => exact ⟨q + 1, g, cap, by go_num, by omega, by rw [Nat.mul_add], by rw [Nat.mul_add]; exact hown, hbw⟩
          case measure => simp [intOf]; omega
    · have ei : q = l.length := by omega
      have hltd : decide ((q : Int) < (l.length : Int)) = false := by simp; omega
      rw [show l.take q = l by rw [ei]; exact List.take_length] at hown
      go_wp2
      go_ret3
      refine ⟨g, cap, ?_, ?_, hbr⟩
      · rw [← ei]; rfl
      · rw [← ei]; exact hown
end Go.Proofs.YtmjokinagbpihaaDoor
