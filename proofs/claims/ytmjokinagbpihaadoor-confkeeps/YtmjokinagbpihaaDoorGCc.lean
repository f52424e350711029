/- A program's bytes. -/
import Derived.Test.YtmjokinagbpihaaDoorGCb
import Derived.Laws.BitsAllLaws
namespace Go.Proofs.YtmjokinagbpihaaDoor
open Go.RowKit

set_option maxRecDepth 100000 in
set_option maxHeartbeats 4000000 in
theorem encode_ok (a : Option Addr) (cap : Nat) (l : List Ins) (w : World) (hP : Prg w a l) (hF : Fld w) (hm : (mayL l 8).1 = 0) :
    Calls Tryd.prog 37 #[.slice a l.length cap] w fun e w' => ∃ g cap', e = .returned (.tuple #[.slice (some ⟨g, 0, none⟩) (12 * l.length) cap', .int .i64 0, .int .i64 0]) ∧ w'.ownsRow w.heap.size 5 1 (.slice (some ⟨g, 0, none⟩) (12 * l.length) cap') (12 * l.length) (bCells (encB l)) ∧ Below w.heap.size w w' := by
  obtain ⟨i0, hi, hz0, hz1, hz2⟩ := info_parts info_u8
  have hlen := may_len hm
  have hmay := may_any a cap l 8 w hP hF
  rw [may_zero hm] at hmay
  have HP : Hid (Prg w a l) := hP
  clear hP hm hF
  go_enter Tryd.func37, Tryd.ntmps37
  go_wp2_with fail
  refine hmay.mono ?_
  rintro e w1 ⟨rfl, b1⟩
  have hs1 := b1.size
  go_wp2_with (at_make; refine wpList_make_own _ rfl _ _ 31 rfl w.heap.size 5 i0 (.int .u8 0) 1 Tryd.underlying31 hi hz0 hz1 .i64 .i64 _ (12 * l.length) rfl rfl (by omega) (by rw [hz2]; omega) (by unfold maxLen; omega) hs1 ?_; intro w2 hown2 hg2)
  have b2 : Below w.heap.size w w2 := b1.grown hg2 hs1 (fun k hk => by cases hk)
  clear b1 hs1 hg2 hmay
  go_loopw [7, 9, 10, 26, 45] (fun v7 _ _ v26 _ wr => ∃ i g cap : Nat, v26 = .int .i64 i ∧ i ≤ l.length ∧ v7 = .slice (some ⟨g, 0, none⟩) (12 * i) cap ∧ wr.ownsRow w.heap.size 5 1 (.slice (some ⟨g, 0, none⟩) (12 * i) cap) (12 * i) (bCells (encB (l.take i))) ∧ Below w.heap.size w wr) (fun _ _ _ v26 _ _ => l.length - (intOf v26).toNat)
  case atStart => exact ⟨0, _, _, rfl, Nat.zero_le _, rfl, hown2, b2⟩
  case round =>
    obtain ⟨q, g, cap, rfl, hq, rfl, hown, hbr⟩ := hrel
    clear hown2 b2
    by_cases hlt : q < l.length
    · have hlt' : (q : Int) < (l.length : Int) := by omega
      obtain ⟨bb, off, rfl, hx⟩ := HP.out q hlt
      have hx := hx.kept hbr
      have hE : Hid (encB (l.take (q + 1)) = _) := hd (enc_step l q hlt)
      obtain ⟨k0, k1, k2, k3, k4⟩ := hx
      generalize encB (l.take q) = bs at *
      generalize l.getD q default = x at *
      have hins : Hid (insB x = [b8 x.op, b8 x.a, b8 x.b, b8 x.c] ++ (List.range 8).map (byteAt x.imm)) := hd rfl
      have e0 := mod_b8 x.op
      have e1 := mod_b8 x.a
      have e2 := mod_b8 x.b
      have e3 := mod_b8 x.c
      have e4 := mod_u64 x.imm
      have hY : Hid (∀ j, byteAt x.imm j = u64 x.imm / 2 ^ (8 * j) % 256) := hd fun j => rfl
      generalize b8 x.op = p0 at *
      generalize b8 x.a = p1 at *
      generalize b8 x.b = p2 at *
      generalize b8 x.c = p3 at *
      generalize u64 x.imm = U at *
      generalize byteAt x.imm = Y at *
      generalize insB x = X at *
      obtain ⟨o, a, b, c, i⟩ := x
      simp only at *
      have hlg := hown.lt g rfl
      have hsz := hbr.size
      go_wp2_with (at_builtin; (refine wpList_append_lies _ rfl _ _ 31 rfl w.heap.size 5 i0 (.int .u8 0) 1 1 Tryd.underlying31 hi hz0 hz1 hz2 rfl (by decide) (.slice (some ⟨g, 0, none⟩) (12 * q) cap) _ _ rfl ((hown.alloc _).alloc _) ⟨_, 0, none⟩ 4 4 (bCells [p0, p1, p2, p3]) rfl rfl (cells_new [.int .u8 (p0 : Int), .int .u8 (p1 : Int), .int .u8 (p2 : Int), .int .u8 (p3 : Int)] _ (by simp)) (by simp [bCells, Value.oneCell']) (by decide) (by unfold maxLen; omega) (by omega) (by simp; omega) _ rfl ?_); intro g1 cap1 w1 hown1 hgrow1 hlies1 hlt1)
      have hb1 : Below w.heap.size w w1 := ((hbr.alloc (by omega) _).alloc (by simp; omega) _).grown hgrow1 (by simp; omega) (fun j hj => (hown.lt j hj).1)
      have hx4 : w1.cell? ⟨wr.heap.size, 4, none⟩ = some (.int .i64 i) := hgrow1.cell (by simp) (fun e => by
        have e' : wr.heap.size = g := by simpa [Value.ownBlock] using e
        omega)
      have hne : Hid (g1 ≠ wr.heap.size) := hd (by
        rcases hlies1 with h | h
        · have h' : g = g1 := by simpa [Value.ownBlock] using h
          omega
        · simp at h; omega)
      rw [bCells_app] at hown1
      clear hgrow1 hown hlies1 hlg hlt1 e0 e1 e2 e3 k0 k1 k2 k3 k4
      go_wp2_with fail
      go_loopw [7, 10, 45] (fun v7 _ v45 wq => ∃ j g cap : Nat, v45 = .int .i64 j ∧ j ≤ 8 ∧ v7 = .slice (some ⟨g, 0, none⟩) (12 * q + 4 + j) cap ∧ wq.ownsRow w.heap.size 5 1 (.slice (some ⟨g, 0, none⟩) (12 * q + 4 + j) cap) (12 * q + 4 + j) (bCells (bs ++ [p0, p1, p2, p3] ++ (List.range j).map Y)) ∧ Below w.heap.size w wq ∧ wq.cell? ⟨wr.heap.size, 4, none⟩ = some (.int .i64 i) ∧ Hid (g ≠ wr.heap.size)) (fun _ _ v45 _ => 8 - (intOf v45).toNat)
      case atStart => exact ⟨0, g1, cap1, rfl, by omega, rfl, by simpa using hown1, hb1, hx4, hne⟩
      case round =>
        rename World => wq
        obtain ⟨j, g, cap, rfl, hj, rfl, hown, hbw, hx, hg⟩ := hrel
        clear hown1 hb1 hx4 hne
        by_cases hlt : j < 8
        · have ev := byte_val e4 (hY.out j)
          have hR : Hid ((List.range (j + 1)).map Y = (List.range j).map Y ++ [Y j]) := hd (by rw [List.range_succ]; simp)
          generalize Y j = y at *
          have hsz := hbw.size
          have hlg := hown.lt g rfl
          have hlw := World.block_lt_of_cell? wq _ hx
          go_wp2_with (at_builtin; (refine wpList_append_lies _ rfl _ _ 31 rfl w.heap.size 5 i0 (.int .u8 0) 1 1 Tryd.underlying31 hi hz0 hz1 hz2 rfl (by decide) (.slice (some ⟨g, 0, none⟩) (12 * q + 4 + j) cap) _ _ rfl (hown.alloc _) ⟨_, 0, none⟩ 1 1 (bCells [y]) rfl rfl (cells_new [.int .u8 (y : Int)] _ (by simp)) (by simp [bCells, Value.oneCell']) (by decide) (by unfold maxLen; omega) (by omega) (by simp; omega) _ rfl ?_); intro g1 cap1 w1 hown1 hgrow1 hlies1 hlt1)
          have hb1' : Below w.heap.size w w1 := (hbw.alloc (by omega) _).grown hgrow1 (by simp; omega) (fun j hj => (hown.lt j hj).1)
          have hxx : w1.cell? ⟨wr.heap.size, 4, none⟩ = some (.int .i64 i) := hgrow1.cell (alloc_keeps _ hx) (fun e => by
            have e' : wr.heap.size = g := by simpa [Value.ownBlock] using e
            exact hg.out e'.symm)
          have hne : Hid (g1 ≠ wr.heap.size) := hd (by
            rcases hlies1 with h | h
            · have h' : g = g1 := by simpa [Value.ownBlock] using h
              rw [← h']; exact hg.out
            · simp at h hlw; omega)
          rw [bCells_app, List.append_assoc (bs ++ [p0, p1, p2, p3]), ← hR.out] at hown1
          clear hgrow1 hlies1 hlt1 hown hx hg
          go_roundw
          case rel => exact ⟨j + 1, g1, cap1, by go_num, by omega, by rw [Nat.add_assoc], hown1, hb1', hxx, hne⟩
          case measure => simp [intOf]; omega
        · have ej : j = 8 := by omega
          subst ej
          rw [List.append_assoc, ← hins.out, ← hE.out] at hown
          go_wp2_with fail
          go_roundw
          case rel => exact ⟨q + 1, g, cap, by go_num, by omega, by rw [Nat.mul_add], by rw [Nat.mul_add]; exact hown, hbw⟩
          case measure => simp [intOf]; omega
    · have ei : q = l.length := by omega
      have hltd : decide ((q : Int) < (l.length : Int)) = false := by simp; omega
      rw [show l.take q = l by rw [ei]; exact List.take_length] at hown
      go_wp2
      go_ret3
      refine ⟨g, cap, ?_, ?_, hbr⟩
      · rw [← ei]; rfl
      · rw [← ei]; exact hown
end Go.Proofs.YtmjokinagbpihaaDoor

/- An instruction read from its bytes. -/
namespace Go.Proofs.YtmjokinagbpihaaDoor
open Go.RowKit

theorem or_val {S y j T : Nat} (hS : S < 2 ^ (8 * j)) (hy : y < 256) (hj : j < 8) (hT : T = S + y * 2 ^ (8 * j)) :
    bits .or .u64 (S : Int) (IntKind.u64.wrap ((y : Int) * 2 ^ (8 * j))) = (T : Int) := by
  have hp : 2 ^ (8 * j) * 256 ≤ 18446744073709551616 := by
    have h1 : 2 ^ (8 * j) * 256 = 2 ^ (8 * j + 8) := by rw [Nat.pow_add]
    have h2 : 2 ^ (8 * j + 8) ≤ 2 ^ 64 := Nat.pow_le_pow_right (by decide) (by omega)
    have h3 : (2 : Nat) ^ 64 = 18446744073709551616 := by decide
    omega
  have hyp : y * 2 ^ (8 * j) < 18446744073709551616 := by
    have h1 : y * 2 ^ (8 * j) ≤ 255 * 2 ^ (8 * j) := Nat.mul_le_mul_right _ (by omega)
    have h2 : 0 < 2 ^ (8 * j) := Nat.two_pow_pos _
    omega
  have hor : S ||| y * 2 ^ (8 * j) = T := by
    rw [Nat.mul_comm, Nat.or_comm, ← Nat.two_pow_add_eq_or_of_lt hS, hT, Nat.mul_comm]
    omega
  have h2 : 0 < 2 ^ (8 * j) := Nat.two_pow_pos _
  generalize 8 * j = q at *
  have h1 : ((2 ^ q : Nat) : Int) = (2 : Int) ^ q := by simp
  rw [← h1]
  generalize 2 ^ q = P at *
  have e1 : (y : Int) * (P : Int) = ((y * P : Nat) : Int) := by simp
  have e2 : IntKind.u64.wrap ((y * P : Nat) : Int) = ((y * P : Nat) : Int) := by
    rw [wrap_u64]
    generalize y * P = M at *
    omega
  rw [e1, e2, u64_or_nat S (y * P) (by omega) hyp, hor]

theorem sum_lt8 {S j : Nat} (h : S < 2 ^ (8 * j)) (hj : j ≤ 8) : S < 18446744073709551616 := by
  have h2 : 2 ^ (8 * j) ≤ 2 ^ 64 := Nat.pow_le_pow_right (by decide) (by omega)
  have h3 : (2 : Nat) ^ 64 = 18446744073709551616 := by decide
  omega

set_option maxRecDepth 100000 in
theorem wrap_i64_nat (S : Nat) : IntKind.i64.wrap (S : Int) = wrap64 (S : Int) := by
  unfold wrap64
  generalize (S : Int) = z
  rw [IntKind.wrap_i64]

set_option maxRecDepth 100000 in
set_option maxHeartbeats 2000000 in
theorem read_any (b q n cap p : Nat) (bs : List Nat) (w : World) (hb : ∀ i, bs.getD i 0 < 256) (hn : 12 ≤ n) (hc : ∀ i, i < 12 → w.cell? ⟨b, q + i, none⟩ = some (.int .u8 ((bs.getD (p + i) 0 : Nat) : Int))) :
    Calls Tryd.prog 82 #[.slice (some ⟨b, q, none⟩) n cap] w fun e w' => e = .returned (insV (getI bs p)) ∧ Below w.heap.size w w' := by
  have hI : Hid (getI bs p = ⟨(bs.getD p 0 : Nat), (bs.getD (p + 1) 0 : Nat), (bs.getD (p + 2) 0 : Nat), (bs.getD (p + 3) 0 : Nat), wrap64 (sumB bs (p + 4) 8 : Nat)⟩) := hd rfl
  have k0 := hc 0 (by omega)
  have k1 := hc 1 (by omega)
  have k2 := hc 2 (by omega)
  have k3 := hc 3 (by omega)
  rw [Nat.add_zero, Nat.add_zero] at k0
  have HC : Hid (∀ i, i < 12 → w.cell? ⟨b, q + i, none⟩ = some (.int .u8 ((bs.getD (p + i) 0 : Nat) : Int))) := hc
  have HB : Hid (∀ i, bs.getD i 0 < 256) := hb
  have l0 := hb p
  have l1 := hb (p + 1)
  have l2 := hb (p + 2)
  have l3 := hb (p + 3)
  have hS : Hid (∀ j, sumB bs (p + 4) (j + 1) = sumB bs (p + 4) j + bs.getD (p + (4 + j)) 0 * 2 ^ (8 * j)) := hd fun j => by rw [sumB, Nat.add_assoc]
  have hL : Hid (∀ j, sumB bs (p + 4) j < 2 ^ (8 * j)) := hd (sumB_lt bs (p + 4) hb)
  have h0 : Hid (sumB bs (p + 4) 0 = 0) := hd rfl
  generalize sumB bs (p + 4) = S at *
  clear hc hb
  generalize getI bs p = G at *
  have HA : Below w.heap.size w (w.alloc (.cells #[.int .i64 0, .int .i64 0, .int .i64 0, .int .i64 0, .int .i64 0] 71)) := (Below.refl _ _).alloc (Nat.le_refl _) _
  go_enter Tryd.func82, Tryd.ntmps82
  go_wp2_with fail
  go_loopw [3, 4, 5] (fun v3 _ v5 wr => ∃ j : Nat, v5 = .int .i64 j ∧ j ≤ 8 ∧ v3 = .int .u64 (S j : Nat) ∧ wr = w.alloc (.cells #[.int .i64 0, .int .i64 0, .int .i64 0, .int .i64 0, .int .i64 0] 71)) (fun _ _ v5 _ => 8 - (intOf v5).toNat)
  case atStart => exact ⟨0, rfl, by omega, by rw [h0.out]; rfl, rfl⟩
  case round =>
    obtain ⟨j, rfl, hj, rfl, rfl⟩ := hrel
    by_cases hlt : j < 8
    · have hx := alloc_keeps (.cells #[.int .i64 0, .int .i64 0, .int .i64 0, .int .i64 0, .int .i64 0] 71) (HC.out (4 + j) (by omega))
      have hy := HB.out (p + (4 + j))
      have hor := or_val (hL.out j) (HB.out (p + (4 + j))) hlt (hS.out j)
      generalize bs.getD (p + (4 + j)) 0 = y at *
      obtain ⟨m, hm⟩ : ∃ m, 4 + j = m := ⟨_, rfl⟩
      rw [hm] at hx
      have em : (4 : Int) + (j : Int) = (m : Int) := by omega
      have hmn : (m : Int) < (n : Int) := by omega
      clear hm
      obtain ⟨T, hT⟩ : ∃ T, Hid (S (j + 1) = T) := ⟨_, rfl⟩
      rw [hT.out] at hor
      go_wp2_with fail
      go_roundw
      case rel => exact ⟨j + 1, by go_num, by omega, by rw [hT.out], trivial⟩
      case measure => simp [intOf]; omega
    · have ej : j = 8 := by omega
      subst ej
      have hl := sum_lt8 (hL.out 8) (by omega)
      have ew := wrap_i64_nat (S 8)
      generalize S 8 = s at *
      generalize wrap64 (s : Int) = z at *
      generalize bs.getD p 0 = y0 at *
      generalize bs.getD (p + 1) 0 = y1 at *
      generalize bs.getD (p + 2) 0 = y2 at *
      generalize bs.getD (p + 3) 0 = y3 at *
      have k0 := alloc_keeps (.cells #[.int .i64 0, .int .i64 0, .int .i64 0, .int .i64 0, .int .i64 0] 71) k0
      have k1 := alloc_keeps (.cells #[.int .i64 0, .int .i64 0, .int .i64 0, .int .i64 0, .int .i64 0] 71) k1
      have k2 := alloc_keeps (.cells #[.int .i64 0, .int .i64 0, .int .i64 0, .int .i64 0, .int .i64 0] 71) k2
      have k3 := alloc_keeps (.cells #[.int .i64 0, .int .i64 0, .int .i64 0, .int .i64 0, .int .i64 0] 71) k3
      clear HC HB hS hL h0
      go_wp2_with fail
      go_region
      go_wp2_with fail
      rw [hI.out]
      (try simp only [Exit.inBlock, Exit.then])
      refine bodyPost_ret (v := insV ⟨(y0 : Int), (y1 : Int), (y2 : Int), (y3 : Int), z⟩) ?_ rfl ⟨rfl, ?_⟩
      · have hh := heap_alloc_new w (.cells #[.int .i64 (y0 : Int), .int .i64 (y1 : Int), .int .i64 (y2 : Int), .int .i64 (y3 : Int), .int .i64 z] 71)
        have c0 : ((w.alloc (.cells #[.int .i64 (y0 : Int), .int .i64 (y1 : Int), .int .i64 (y2 : Int), .int .i64 (y3 : Int), .int .i64 z] 71)).drew).cell? ⟨w.heap.size, 0, none⟩ = some (.int .i64 (y0 : Int)) := by simp
        have c1 : ((w.alloc (.cells #[.int .i64 (y0 : Int), .int .i64 (y1 : Int), .int .i64 (y2 : Int), .int .i64 (y3 : Int), .int .i64 z] 71)).drew).cell? ⟨w.heap.size, 1, none⟩ = some (.int .i64 (y1 : Int)) := by simp
        have c2 : ((w.alloc (.cells #[.int .i64 (y0 : Int), .int .i64 (y1 : Int), .int .i64 (y2 : Int), .int .i64 (y3 : Int), .int .i64 z] 71)).drew).cell? ⟨w.heap.size, 2, none⟩ = some (.int .i64 (y2 : Int)) := by simp
        have c3 : ((w.alloc (.cells #[.int .i64 (y0 : Int), .int .i64 (y1 : Int), .int .i64 (y2 : Int), .int .i64 (y3 : Int), .int .i64 z] 71)).drew).cell? ⟨w.heap.size, 3, none⟩ = some (.int .i64 (y3 : Int)) := by simp
        have c4 : ((w.alloc (.cells #[.int .i64 (y0 : Int), .int .i64 (y1 : Int), .int .i64 (y2 : Int), .int .i64 (y3 : Int), .int .i64 z] 71)).drew).cell? ⟨w.heap.size, 4, none⟩ = some (.int .i64 z) := by simp
        generalize (w.alloc (.cells #[.int .i64 (y0 : Int), .int .i64 (y1 : Int), .int .i64 (y2 : Int), .int .i64 (y3 : Int), .int .i64 z] 71)).drew = W at *
        clear hh
        simp [results, Tryd.results82, go_sem, insV, c0, c1, c2, c3, c4]
      · exact ((Below.refl _ _).alloc (Nat.le_refl _) _).drew


set_option maxRecDepth 100000 in
set_option maxHeartbeats 2000000 in
theorem get_any (b q n cap p : Nat) (bs : List Nat) (w : World) (hb : ∀ i, bs.getD i 0 < 256) (hn : 12 ≤ n) (hc : ∀ i, i < 12 → w.cell? ⟨b, q + i, none⟩ = some (.int .u8 ((bs.getD (p + i) 0 : Nat) : Int))) :
    Calls Tryd.prog 71 #[.slice (some ⟨b, q, none⟩) n cap] w fun e w' => e = .returned (insV (getI bs p)) ∧ Below w.heap.size w w' := by
  have hI : Hid (getI bs p = ⟨(bs.getD p 0 : Nat), (bs.getD (p + 1) 0 : Nat), (bs.getD (p + 2) 0 : Nat), (bs.getD (p + 3) 0 : Nat), wrap64 (sumB bs (p + 4) 8 : Nat)⟩) := hd rfl
  have k0 := hc 0 (by omega)
  have k1 := hc 1 (by omega)
  have k2 := hc 2 (by omega)
  have k3 := hc 3 (by omega)
  rw [Nat.add_zero, Nat.add_zero] at k0
  have HC : Hid (∀ i, i < 12 → w.cell? ⟨b, q + i, none⟩ = some (.int .u8 ((bs.getD (p + i) 0 : Nat) : Int))) := hc
  have HB : Hid (∀ i, bs.getD i 0 < 256) := hb
  have l0 := hb p
  have l1 := hb (p + 1)
  have l2 := hb (p + 2)
  have l3 := hb (p + 3)
  have hS : Hid (∀ j, sumB bs (p + 4) (j + 1) = sumB bs (p + 4) j + bs.getD (p + (4 + j)) 0 * 2 ^ (8 * j)) := hd fun j => by rw [sumB, Nat.add_assoc]
  have hL : Hid (∀ j, sumB bs (p + 4) j < 2 ^ (8 * j)) := hd (sumB_lt bs (p + 4) hb)
  have h0 : Hid (sumB bs (p + 4) 0 = 0) := hd rfl
  generalize sumB bs (p + 4) = S at *
  clear hc hb
  generalize getI bs p = G at *
  have HA : Below w.heap.size w (w.alloc (.cells #[.int .i64 0, .int .i64 0, .int .i64 0, .int .i64 0, .int .i64 0] 71)) := (Below.refl _ _).alloc (Nat.le_refl _) _
  go_enter Tryd.func71, Tryd.ntmps71
  go_wp2_with fail
  go_loopw [3, 4] (fun v3 v5 wr => ∃ j : Nat, v5 = .int .i64 j ∧ j ≤ 8 ∧ v3 = .int .u64 (S j : Nat) ∧ wr = w.alloc (.cells #[.int .i64 0, .int .i64 0, .int .i64 0, .int .i64 0, .int .i64 0] 71)) (fun _ v5 _ => 8 - (intOf v5).toNat)
  case atStart => exact ⟨0, rfl, by omega, by rw [h0.out]; rfl, rfl⟩
  case round =>
    obtain ⟨j, rfl, hj, rfl, rfl⟩ := hrel
    by_cases hlt : j < 8
    · have hx := alloc_keeps (.cells #[.int .i64 0, .int .i64 0, .int .i64 0, .int .i64 0, .int .i64 0] 71) (HC.out (4 + j) (by omega))
      have hy := HB.out (p + (4 + j))
      have hor := or_val (hL.out j) (HB.out (p + (4 + j))) hlt (hS.out j)
      generalize bs.getD (p + (4 + j)) 0 = y at *
      obtain ⟨m, hm⟩ : ∃ m, 4 + j = m := ⟨_, rfl⟩
      rw [hm] at hx
      have em : (4 : Int) + (j : Int) = (m : Int) := by omega
      have hmn : (m : Int) < (n : Int) := by omega
      clear hm
      obtain ⟨T, hT⟩ : ∃ T, Hid (S (j + 1) = T) := ⟨_, rfl⟩
      rw [hT.out] at hor
      go_wp2_with fail
      go_roundw
      case rel => exact ⟨j + 1, by go_num, by omega, by rw [hT.out], trivial⟩
      case measure => simp [intOf]; omega
    · have ej : j = 8 := by omega
      subst ej
      have hl := sum_lt8 (hL.out 8) (by omega)
      have ew := wrap_i64_nat (S 8)
      generalize S 8 = s at *
      generalize wrap64 (s : Int) = z at *
      generalize bs.getD p 0 = y0 at *
      generalize bs.getD (p + 1) 0 = y1 at *
      generalize bs.getD (p + 2) 0 = y2 at *
      generalize bs.getD (p + 3) 0 = y3 at *
      have k0 := alloc_keeps (.cells #[.int .i64 0, .int .i64 0, .int .i64 0, .int .i64 0, .int .i64 0] 71) k0
      have k1 := alloc_keeps (.cells #[.int .i64 0, .int .i64 0, .int .i64 0, .int .i64 0, .int .i64 0] 71) k1
      have k2 := alloc_keeps (.cells #[.int .i64 0, .int .i64 0, .int .i64 0, .int .i64 0, .int .i64 0] 71) k2
      have k3 := alloc_keeps (.cells #[.int .i64 0, .int .i64 0, .int .i64 0, .int .i64 0, .int .i64 0] 71) k3
      clear HC HB hS hL h0
      go_wp2_with fail
      go_region
      go_wp2_with fail
      rw [hI.out]
      (try simp only [Exit.inBlock, Exit.then])
      refine bodyPost_ret (v := insV ⟨(y0 : Int), (y1 : Int), (y2 : Int), (y3 : Int), z⟩) ?_ rfl ⟨rfl, ?_⟩
      · have hh := heap_alloc_new w (.cells #[.int .i64 (y0 : Int), .int .i64 (y1 : Int), .int .i64 (y2 : Int), .int .i64 (y3 : Int), .int .i64 z] 71)
        have c0 : ((w.alloc (.cells #[.int .i64 (y0 : Int), .int .i64 (y1 : Int), .int .i64 (y2 : Int), .int .i64 (y3 : Int), .int .i64 z] 71)).drew).cell? ⟨w.heap.size, 0, none⟩ = some (.int .i64 (y0 : Int)) := by simp
        have c1 : ((w.alloc (.cells #[.int .i64 (y0 : Int), .int .i64 (y1 : Int), .int .i64 (y2 : Int), .int .i64 (y3 : Int), .int .i64 z] 71)).drew).cell? ⟨w.heap.size, 1, none⟩ = some (.int .i64 (y1 : Int)) := by simp
        have c2 : ((w.alloc (.cells #[.int .i64 (y0 : Int), .int .i64 (y1 : Int), .int .i64 (y2 : Int), .int .i64 (y3 : Int), .int .i64 z] 71)).drew).cell? ⟨w.heap.size, 2, none⟩ = some (.int .i64 (y2 : Int)) := by simp
        have c3 : ((w.alloc (.cells #[.int .i64 (y0 : Int), .int .i64 (y1 : Int), .int .i64 (y2 : Int), .int .i64 (y3 : Int), .int .i64 z] 71)).drew).cell? ⟨w.heap.size, 3, none⟩ = some (.int .i64 (y3 : Int)) := by simp
        have c4 : ((w.alloc (.cells #[.int .i64 (y0 : Int), .int .i64 (y1 : Int), .int .i64 (y2 : Int), .int .i64 (y3 : Int), .int .i64 z] 71)).drew).cell? ⟨w.heap.size, 4, none⟩ = some (.int .i64 z) := by simp
        generalize (w.alloc (.cells #[.int .i64 (y0 : Int), .int .i64 (y1 : Int), .int .i64 (y2 : Int), .int .i64 (y3 : Int), .int .i64 z] 71)).drew = W at *
        clear hh
        simp [results, Tryd.results71, go_sem, insV, c0, c1, c2, c3, c4]
      · exact ((Below.refl _ _).alloc (Nat.le_refl _) _).drew

end Go.Proofs.YtmjokinagbpihaaDoor
