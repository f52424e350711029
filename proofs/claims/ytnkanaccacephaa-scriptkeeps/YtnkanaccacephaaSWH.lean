/- The walk of ScriptKeeps. -/
import Derived.Test.YtnkanaccacephaaSWF
namespace Go.Proofs.Ytnkanaccacephaa
open Go.RowKit


set_option maxRecDepth 100000 in
set_option maxHeartbeats 16000000 in
theorem scriptKeeps_any (a : Option Addr) (cap : Nat) (l0 : List Stp) (b : Option Addr) (bcap : Nat) (b0 : List Nat) (w : World) (hP : Rd w a (sCells l0)) (hlc : l0.length ≤ cap) (hR : Rd w b (bCells b0)) (hb : Byte b0) (hbc : b0.length ≤ bcap) (hnone : b = none → bcap = 0) :
    Calls Try.prog 7 #[.slice a l0.length cap, .slice b b0.length bcap] w fun e w' => e = .returned (.bool true) ∧ Below w.heap.size w w' := by
  have h0 := awake_any w
  have hS : Hid (∀ W, _) := hd (fun W => shortS_any a l0.length cap W hlc)
  have hB : Hid (∀ W, _) := hd (fun W => shortB_any b b0.length bcap W hbc)
  obtain ⟨N, hN⟩ : ∃ N, Hid (min l0.length 1048576 = N) := ⟨_, rfl⟩
  obtain ⟨M, hM⟩ : ∃ M, Hid (min b0.length 1048576 = M) := ⟨_, rfl⟩
  rw [hN.out] at hS
  rw [hM.out] at hB
  have hN1 : N ≤ 1048576 := by have := hN.out; omega
  have hM1 : M ≤ 1048576 := by have := hM.out; omega
  obtain ⟨l, hl⟩ : ∃ l, Hid (l0.take N = l) := ⟨_, rfl⟩
  obtain ⟨bs, hbs⟩ : ∃ l, Hid (b0.take M = l) := ⟨_, rfl⟩
  have hll : Hid (l.length = N) := hd (by rw [← hl.out, List.length_take]; have := hN.out; omega)
  have hbl : Hid (bs.length = M) := hd (by rw [← hbs.out, List.length_take]; have := hM.out; omega)
  have HBy : Hid (Byte bs) := hd (by rw [← hbs.out]; exact byte_take hb M)
  have HP : Hid (∀ W, Below w.heap.size w W → Rd W a (sCells l)) := hd (fun W hW => by
    rw [← hl.out]
    intro j u hj
    have hjl := (List.getElem?_eq_some_iff.1 hj).1
    rw [sCells_len, List.length_take] at hjl
    refine (hP.below hW) j u ?_
    rw [← hj]
    conv => lhs; rw [← List.take_append_drop N l0, ← sCells_app]
    rw [List.getElem?_append_left (by rw [sCells_len, List.length_take]; exact hjl)])
  have HR : Hid (∀ W, Below w.heap.size w W → Rd W b (bCells bs)) := hd (fun W hW => by rw [← hbs.out]; exact rd_take (hR.below hW) M)
  replace hnone := hd hnone
  clear hP hR hb
  go_enter Try.func7, Try.ntmps7
  go_upto_region 3 with (go_at_call 8; refine h0.mono ?_; rintro e w1 ⟨rfl, b1⟩)
  have hS1 := hS.out w1
  have hB1 := hB.out w1
  clear h0 hS hB
  have hNc : N ≤ cap := by have := hN.out; omega
  have hMc : M ≤ bcap := by have := hM.out; omega
  replace b1 := hd b1
  go_upto_region 4 with (first | (go_at_call 16; with_reducible refine hS1.mono ?_; rintro e w1 ⟨rfl, rfl⟩) | (go_at_call 17; with_reducible refine hB1.mono ?_; rintro e w1 ⟨rfl, rfl⟩))
  clear hS1 hB1
  obtain ⟨w2, xa, xc, w3, RO⟩ := roomy (by decide) Try.underlying23 info_step rfl (by omega) w1 (c := N) (HP.out w1 b1.out) (by rw [sCells_len, hll.out]) (sCells_one l) (n := N) (by omega)
  obtain ⟨wa, wk, w4, hap2, hrow, hmod, hnew⟩ := pushM Try.underlying23 info_step rfl (by omega) RO.row (by omega) [Value.int .i64 77, .int .i64 0, .int .i64 0, .int .i64 78, .int .i64 0, .int .i64 0] (m := 2) (by omega) rfl (by decide) (cs := #[.int .i64 77, .int .i64 0, .int .i64 0, .int .i64 78, .int .i64 0, .int .i64 0]) rfl
  have hmd := RO.made
  have hap1 := hd RO.ap
  obtain ⟨wb, rfl⟩ := hrow.head (by omega)
  replace hap2 := hd hap2
  have B4 : Hid (Below w.heap.size w w4) := hd ((b1.out.trans (RO.b2.mono b1.out.size)).trans (hmod.below (B := w.heap.size) (b1.out.trans (RO.b2.mono b1.out.size)).size (fun k _ hk => Nat.le_trans b1.out.size (RO.new k hk))))
  have O4 : Hid (Owned w.heap.size w4 [(⟨38, 3, some ⟨wb, 0, none⟩, N + 2, wk, sCells l ++ [Value.int .i64 77, .int .i64 0, .int .i64 0, .int .i64 78, .int .i64 0, .int .i64 0]⟩ : RowD)]) := hd ((Owned.nil _ _).cons hrow (fun k hk => by
    rcases hnew k hk with h | h
    · exact Nat.le_trans b1.out.size (RO.new _ h)
    · exact Nat.le_trans (Nat.le_trans b1.out.size RO.b2.size) h) (fun d hd => by cases hd))
  have hwc : N + 2 ≤ wk := hrow.capLe
  clear hrow hmod hnew RO b1
  have hNw : (N : Int) ≤ (wk : Int) := by omega
  go_upto_region 5 with (first | (at_builtin; refine wpList_append_run rfl _ _ _ rfl _ _ _ _ rfl rfl hap1.out ?_; clear hap1) | (at_builtin; refine wpList_append_run rfl _ _ _ rfl _ _ _ _ rfl rfl hap2.out ?_; clear hap2))
  clear hmd
  obtain ⟨w5, ya, yc, w6, RO⟩ := roomy (by decide) Try.underlying27 info_u8 rfl (by omega) w4 (c := M) (HR.out w4 B4.out) (by rw [bCells_len, hbl.out]; omega) (bCells_one bs) (n := M) (by omega)
  obtain ⟨va, vc, w7, hap2, hrow, hmod, hnew⟩ := pushM Try.underlying27 info_u8 rfl (by omega) RO.row (by omega) [Value.int .u8 161, Value.int .u8 162] (m := 2) (by omega) rfl (by decide) (cs := #[.int .u8 161, .int .u8 162]) rfl
  have hmd := RO.made
  have hap1 := hd RO.ap
  obtain ⟨vb, rfl⟩ := hrow.head (by omega)
  replace hap2 := hd hap2
  have hm47 : Hid (Mod (fun k => blk ya = some k) w4 w7) := hd ((Mod.of_below _ RO.b2).trans hmod (fun k hk => .inl hk))
  have b47 : Hid (Below w4.heap.size w4 w7) := hd (RO.b2.trans (hmod.below RO.b2.size (fun k _ hk => RO.new k hk)))
  have B7 : Hid (Below w.heap.size w w7) := hd (B4.out.trans (b47.out.mono B4.out.size))
  have hvn : ∀ k, blk (some (⟨vb, 0, none⟩ : Addr)) = some k → w4.heap.size ≤ k := fun k hk => by
    rcases hnew k hk with h | h
    · exact RO.new _ h
    · exact Nat.le_trans RO.b2.size h
  have O7 : Hid (Owned w.heap.size w7 [(⟨5, 1, some ⟨vb, 0, none⟩, M + 2, vc, bCells bs ++ [Value.int .u8 161, Value.int .u8 162]⟩ : RowD), (⟨38, 3, some ⟨wb, 0, none⟩, N + 2, wk, sCells l ++ [Value.int .i64 77, .int .i64 0, .int .i64 0, .int .i64 78, .int .i64 0, .int .i64 0]⟩ : RowD)]) := hd (O4.out.plus B4.out.size b47.out hrow hvn)
  have hvc : M + 2 ≤ vc := hrow.capLe
  clear hrow hmod hnew hvn RO hm47 b47 O4 B4
  have hMv : (M : Int) ≤ (vc : Int) := by omega
  go_upto_region 6 with (first | (at_builtin; refine wpList_append_run rfl _ _ _ rfl _ _ _ _ rfl rfl hap1.out ?_; clear hap1) | (at_builtin; refine wpList_append_run rfl _ _ _ rfl _ _ _ _ rfl rfl hap2.out ?_; clear hap2))
  clear hmd
  -- what the calls make of both
  have HQ : Hid (∀ W, Owned w.heap.size W [(⟨38, 3, some ⟨wb, 0, none⟩, N + 2, wk, sCells l ++ [Value.int .i64 77, .int .i64 0, .int .i64 0, .int .i64 78, .int .i64 0, .int .i64 0]⟩ : RowD)] → Rd W (some ⟨wb, 0, none⟩) (sCells l)) := hd (fun W h => (Row.short h.head (by rw [sCells_len, hll.out])).rd)
  have HV : Hid (∀ W, Owned w.heap.size W [(⟨5, 1, some ⟨vb, 0, none⟩, M + 2, vc, bCells bs ++ [Value.int .u8 161, Value.int .u8 162]⟩ : RowD)] → Rd W (some ⟨vb, 0, none⟩) (bCells bs)) := hd (fun W h => (Row.short h.head (by rw [bCells_len, hbl.out]; simp)).rd)
  have HMay : Hid (∀ W, Rd W (some ⟨wb, 0, none⟩) (sCells l) → Calls Try.prog 9 #[.slice (some ⟨wb, 0, none⟩) N wk] W fun e w' => e = .returned (.tuple #[.int .i64 (mayS l).1, .int .i64 (mayS l).2]) ∧ Below W.heap.size W w') := hd (fun W h => by
    have := may_any (some ⟨wb, 0, none⟩) wk l W h (by rw [hll.out]; omega)
    rw [hll.out] at this
    exact this)
  have HEnc : Hid (∀ W, Rd W (some ⟨wb, 0, none⟩) (sCells l) → Calls Try.prog 11 #[.slice (some ⟨wb, 0, none⟩) N wk] W (EncOut W l)) := hd (fun W h => by
    have := encode_any (some ⟨wb, 0, none⟩) wk l W h (by rw [hll.out]; omega)
    rw [hll.out] at this
    exact this)
  have HDec : Hid (∀ W, Rd W (some ⟨vb, 0, none⟩) (bCells bs) → Calls Try.prog 13 #[.slice (some ⟨vb, 0, none⟩) M vc] W (DecOut W bs)) := hd (fun W h => by
    have := decode_any (some ⟨vb, 0, none⟩) vc bs W h HBy.out (by rw [hbl.out]; omega)
    rw [hbl.out] at this
    exact this)
  have HREnc : Hid (∀ W, Below w.heap.size w W → Calls Try.prog 12 #[.slice a N N] W (EncOut W l)) := hd (fun W h => by
    have := rencode_any a N l W (HP.out W h) (by rw [hll.out]; omega)
    rw [hll.out] at this
    exact this)
  have HRDec : Hid (∀ W, Below w.heap.size w W → Calls Try.prog 14 #[.slice b M M] W (DecOut W bs)) := hd (fun W h => by
    have := Doc.rdecode_any b M bs W (HR.out W h) HBy.out (by rw [hbl.out]; omega)
    rw [hbl.out] at this
    exact this)
  unfold EncOut at HEnc HREnc
  unfold DecOut at HDec HRDec
  have hbE := hd (encF_byte l)
  have hlD := decF_len HBy.out
  have hlE : (encF l).length ≤ 13319 := by
    unfold encF
    split
    · next h => exact enc_len h
    · simp
  generalize encF l = xs at *
  generalize (mayS l).1 = E1 at *
  generalize (mayS l).2 = P1 at *
  generalize (decF bs).1 = ds at *
  generalize (decF bs).2.1 = E2 at *
  generalize (decF bs).2.2 = P2 at *
  have hmay := HMay.out w7 (HQ.out w7 ⟨fun d hd => O7.out.ok d (List.mem_cons_of_mem _ hd), fun d hd => O7.out.new d (List.mem_cons_of_mem _ hd), (List.pairwise_cons.1 O7.out.apart).2⟩)
  go_upto_region 7 with (go_at_call 9; refine hmay.mono ?_; rintro e w8 ⟨rfl, b8⟩; have O8 := hd (O7.out.below b8); have B8 := hd (B7.out.trans (b8.mono B7.out.size)); clear b8)
  clear hmay HMay O7 B7
  have henc := HEnc.out w8 (HQ.out w8 O8.out.tail)
  go_upto_region 8 with (go_at_call 11; refine henc.mono ?_; rintro e w9 ⟨xa, xc, rfl, xr, xn, b9⟩; have O9 := hd (O8.out.plus B8.out.size b9 (d := ⟨5, 1, xa, xs.length, xc, bCells xs⟩) xr xn); have B9 := hd (B8.out.trans (b9.mono B8.out.size)); clear b9 xr xn)
  clear henc O8 B8
  have henc := HEnc.out w9 (HQ.out w9 O9.out.tail.tail)
  go_upto_region 9 with (go_at_call 11; refine henc.mono ?_; rintro e w10 ⟨ya, yc, rfl, yr, yn, b10⟩; have O10 := hd (O9.out.plus B9.out.size b10 (d := ⟨5, 1, ya, xs.length, yc, bCells xs⟩) yr yn); have B10 := hd (B9.out.trans (b10.mono B9.out.size)); clear b10 yr yn)
  clear henc HEnc O9 B9
  have hdec := HDec.out w10 (HV.out w10 ((Owned.nil _ _).cons (O10.out.ok _ (by simp)) (O10.out.new _ (by simp)) (fun d hd => by cases hd)))
  go_upto_region 10 with (go_at_call 13; refine hdec.mono ?_; rintro e w11 ⟨pa, pc, rfl, pr, pn, b11⟩; have O11 := hd (O10.out.plus B10.out.size b11 (d := ⟨38, 3, pa, ds.length, pc, sCells ds⟩) pr pn); have B11 := hd (B10.out.trans (b11.mono B10.out.size)); clear b11 pr pn)
  clear hdec O10 B10
  have hdec := HDec.out w11 (HV.out w11 ((Owned.nil _ _).cons (O11.out.ok _ (by simp)) (O11.out.new _ (by simp)) (fun d hd => by cases hd)))
  go_upto_region 11 with (go_at_call 13; refine hdec.mono ?_; rintro e w12 ⟨qa, qc, rfl, qr, qn, b12⟩; have O12 := hd (O11.out.plus B11.out.size b12 (d := ⟨38, 3, qa, ds.length, qc, sCells ds⟩) qr qn); have B12 := hd (B11.out.trans (b12.mono B11.out.size)); clear b12 qr qn)
  clear hdec HDec O11 B11
  have hNw2 : (N : Int) + 2 ≤ (wk : Int) := by omega
  go_upto_region 12 with fail
  have nek : Nonempty (BelW w12) := ⟨⟨w12, below_same w12⟩⟩
  have KK : Hid (∀ p : BelW w12, Owned w.heap.size p.val [(⟨38, 3, qa, ds.length, qc, sCells ds⟩ : RowD), (⟨38, 3, pa, ds.length, pc, sCells ds⟩ : RowD), (⟨5, 1, ya, xs.length, yc, bCells xs⟩ : RowD), (⟨5, 1, xa, xs.length, xc, bCells xs⟩ : RowD), (⟨5, 1, some ⟨vb, 0, none⟩, M + 2, vc, bCells bs ++ [Value.int .u8 161, Value.int .u8 162]⟩ : RowD), (⟨38, 3, some ⟨wb, 0, none⟩, N + 2, wk, sCells l ++ [Value.int .i64 77, .int .i64 0, .int .i64 0, .int .i64 78, .int .i64 0, .int .i64 0]⟩ : RowD)]) := hd (fun p => O12.out.below p.bel)
  have KB : Hid (∀ p : BelW w12, Below w.heap.size w p.val) := hd (fun p => B12.out.trans (p.bel.mono B12.out.size))
  have q1 : ∀ p : BelW w12, Calls Try.prog 15 #[.slice (some ⟨wb, 0, none⟩) N wk, .slice a N N] p.val fun e w'' => e = .returned (.bool true) ∧ ∃ p' : BelW w12, w'' = p'.val := fun p => by
    have hh := same_yes (some ⟨wb, 0, none⟩) a wk N l p.val (by rw [hll.out]; omega) (HQ.out p.val ((Owned.nil _ _).cons ((KK.out p).ok _ (by simp)) ((KK.out p).new _ (by simp)) (fun d hd => by cases hd))) (HP.out p.val (KB.out p))
    rw [hll.out] at hh
    exact hh.mono fun e w' ⟨he, n, hn⟩ => ⟨he, ⟨w', by rw [hn]; exact p.bel.trans ((below_draw p.val n).mono p.bel.size)⟩, rfl⟩
  have c77 : Hid (∀ p : BelW w12, Rd p.val (some ⟨wb, N * 3, none⟩) [Value.int .i64 77, .int .i64 0, .int .i64 0, .int .i64 78, .int .i64 0, .int .i64 0]) := hd (fun p => rd_off ((KK.out p).ok ((⟨38, 3, some ⟨wb, 0, none⟩, N + 2, wk, sCells l ++ [Value.int .i64 77, .int .i64 0, .int .i64 0, .int .i64 78, .int .i64 0, .int .i64 0]⟩ : RowD)) (by simp)).rd (by rw [sCells_len, hll.out]))
  have x0 : ∀ p : BelW w12, p.val.cell? ⟨wb, N * 3, none⟩ = some (.int .i64 77) := fun p => rd_at (c77.out p) 0 _ rfl
  have x1 : ∀ p : BelW w12, p.val.cell? ⟨wb, N * 3 + 1, none⟩ = some (.int .i64 0) := fun p => rd_at (c77.out p) 1 _ rfl
  have x2 : ∀ p : BelW w12, p.val.cell? ⟨wb, N * 3 + 2, none⟩ = some (.int .i64 0) := fun p => rd_at (c77.out p) 2 _ rfl
  have x3 : ∀ p : BelW w12, p.val.cell? ⟨wb, (N + 1) * 3, none⟩ = some (.int .i64 78) := fun p => by rw [show (N + 1) * 3 = N * 3 + 3 by omega]; exact rd_at (c77.out p) 3 _ rfl
  have x4 : ∀ p : BelW w12, p.val.cell? ⟨wb, (N + 1) * 3 + 1, none⟩ = some (.int .i64 0) := fun p => by rw [show (N + 1) * 3 + 1 = N * 3 + 4 by omega]; exact rd_at (c77.out p) 4 _ rfl
  have x5 : ∀ p : BelW w12, p.val.cell? ⟨wb, (N + 1) * 3 + 2, none⟩ = some (.int .i64 0) := fun p => by rw [show (N + 1) * 3 + 2 = N * 3 + 5 by omega]; exact rd_at (c77.out p) 5 _ rfl
  have cA : Hid (∀ p : BelW w12, Rd p.val (some ⟨vb, M, none⟩) [Value.int .u8 161, Value.int .u8 162]) := hd (fun p => rd_off ((KK.out p).ok ((⟨5, 1, some ⟨vb, 0, none⟩, M + 2, vc, bCells bs ++ [Value.int .u8 161, Value.int .u8 162]⟩ : RowD)) (by simp)).rd (by rw [bCells_len, hbl.out]))
  have y0 : ∀ p : BelW w12, p.val.cell? ⟨vb, M, none⟩ = some (.int .u8 161) := fun p => rd_at (cA.out p) 0 _ rfl
  have y1 : ∀ p : BelW w12, p.val.cell? ⟨vb, M + 1, none⟩ = some (.int .u8 162) := fun p => rd_at (cA.out p) 1 _ rfl
  have s1 : ∀ p : BelW w12, (convert 27 9 (.slice (some ⟨vb, 0, none⟩) M vc)).run Try.prog p.val = .ok (.string ⟨(toU bs).toArray⟩) p.val := fun p => by
    have h1 := string_rd (w := p.val) (cap := vc) (HV.out p.val ((Owned.nil _ _).cons ((KK.out p).ok _ (by simp)) ((KK.out p).new _ (by simp)) (fun d hd => by cases hd))) HBy.out (fun e => by cases e)
    rw [hbl.out] at h1
    exact h1
  have s2 : ∀ p : BelW w12, (convert 27 9 (.slice b M M)).run Try.prog p.val = .ok (.string ⟨(toU bs).toArray⟩) p.val := fun p => by
    have h1 := string_rd (w := p.val) (cap := M) (HR.out p.val (KB.out p)) HBy.out (fun e => by have := hnone.out e; omega)
    rw [hbl.out] at h1
    exact h1
  have eN : IntKind.i64.wrap ((N : Int) + 1) = (N : Int) + 1 := by rw [IntKind.wrap_i64]; omega
  have eM : IntKind.i64.wrap ((M : Int) + 1) = (M : Int) + 1 := by rw [IntKind.wrap_i64]; omega
  generalize toU bs = TB at s1 s2
  clear c77 cA
  refine wp_region_family (α := BelW w12) BelW.val (by kernel_rfl) (by kernel_rfl) ⟨w12.drew, below_draw w12 1⟩ rfl ?_
  repeat (go_big_quiet_step (first | with_reducible exact q1 _))
  refine wpQuiet_nil ?_
  rintro w' ⟨p, rfl⟩
  have O13 := hd (KK.out p)
  have B13 := hd (KB.out p)
  generalize p.val = w13 at *
  clear q1 x0 x1 x2 x3 x4 x5 y0 y1 s1 s2 eN eM KK KB O12 B12 nek p
  go_upto_block 0 with fail
  have hNm : N ≤ 1048576 := hN1
  go_cut [20, 146] (fun v20 v146 wy => Hid ((∃ zs, Owned w.heap.size wy [(⟨38, 3, qa, ds.length, qc, sCells ds⟩ : RowD), (⟨38, 3, pa, ds.length, pc, sCells ds⟩ : RowD), (⟨5, 1, ya, xs.length, yc, bCells xs⟩ : RowD), (⟨5, 1, xa, xs.length, xc, bCells xs⟩ : RowD), (⟨5, 1, some ⟨vb, 0, none⟩, M + 2, vc, bCells bs ++ [Value.int .u8 161, Value.int .u8 162]⟩ : RowD), (⟨38, 3, some ⟨wb, 0, none⟩, N + 2, wk, zs⟩ : RowD)]) ∧ Below w.heap.size w wy))
  case first =>
    go_wp2_with fail
    go_loopg [20, 146, 147, 148, 149, 150, 151, 152, 153] N (fun gg v20 v146 v147 v148 v149 v150 v151 v152 v153 wr => ∃ i : Nat, v146 = .int .i64 (i : Int) ∧ i + gg = N ∧ Hid ((∃ zs, Owned w.heap.size wr [(⟨38, 3, qa, ds.length, qc, sCells ds⟩ : RowD), (⟨38, 3, pa, ds.length, pc, sCells ds⟩ : RowD), (⟨5, 1, ya, xs.length, yc, bCells xs⟩ : RowD), (⟨5, 1, xa, xs.length, xc, bCells xs⟩ : RowD), (⟨5, 1, some ⟨vb, 0, none⟩, M + 2, vc, bCells bs ++ [Value.int .u8 161, Value.int .u8 162]⟩ : RowD), (⟨38, 3, some ⟨wb, 0, none⟩, N + 2, wk, zs⟩ : RowD)]) ∧ Below w.heap.size w wr))
    case atStart => exact ⟨0, by go_num, by omega, hd ⟨⟨_, O13.out⟩, B13.out⟩⟩
    case round =>
      clear O13 B13
      obtain ⟨i, rfl, hi, HW⟩ := hrel
      by_cases h0 : gk = 0
      · subst h0
        obtain rfl : i = N := by omega
        have hge : decide (((i : Nat) : Int) < (i : Int)) = false := by simp
        go_wp2_with fail
        go_meet
        exact HW
      · have hlt : (i : Int) < ((N : Nat) : Int) := by omega
        obtain ⟨⟨zs, hO⟩, hbw⟩ := HW.out
        obtain ⟨⟨ys, r1⟩, r2, ⟨k0, k1, k2⟩, fz⟩ := row_set3 (show Row wr 38 3 (some ⟨wb, 0, none⟩) (N + 2) wk zs from hO.ok (⟨38, 3, some ⟨wb, 0, none⟩, N + 2, wk, zs⟩ : RowD) (by simp)) i (by omega) (.int .i64 1) (.int .i64 9) (.int .i64 0)
        obtain ⟨u0, k0⟩ := Option.isSome_iff_exists.1 k0
        obtain ⟨u1, k1⟩ := Option.isSome_iff_exists.1 k1
        obtain ⟨u2, k2⟩ := Option.isSome_iff_exists.1 k2
        have hwn : w.heap.size ≤ wb := hO.new (⟨38, 3, some ⟨wb, 0, none⟩, N + 2, wk, zs⟩ : RowD) (by simp) wb rfl
        have HN : Hid ((∃ zs, Owned w.heap.size (((wr.setCell ⟨wb, i * 3, none⟩ (.int .i64 1)).setCell ⟨wb, i * 3 + 1, none⟩ (.int .i64 9)).setCell ⟨wb, i * 3 + 2, none⟩ (.int .i64 0)) [(⟨38, 3, qa, ds.length, qc, sCells ds⟩ : RowD), (⟨38, 3, pa, ds.length, pc, sCells ds⟩ : RowD), (⟨5, 1, ya, xs.length, yc, bCells xs⟩ : RowD), (⟨5, 1, xa, xs.length, xc, bCells xs⟩ : RowD), (⟨5, 1, some ⟨vb, 0, none⟩, M + 2, vc, bCells bs ++ [Value.int .u8 161, Value.int .u8 162]⟩ : RowD), (⟨38, 3, some ⟨wb, 0, none⟩, N + 2, wk, zs⟩ : RowD)]) ∧ Below w.heap.size w (((wr.setCell ⟨wb, i * 3, none⟩ (.int .i64 1)).setCell ⟨wb, i * 3 + 1, none⟩ (.int .i64 9)).setCell ⟨wb, i * 3 + 2, none⟩ (.int .i64 0))) := hd ⟨⟨ys, Owned.turnAt (ds := [(⟨38, 3, qa, ds.length, qc, sCells ds⟩ : RowD), (⟨38, 3, pa, ds.length, pc, sCells ds⟩ : RowD), (⟨5, 1, ya, xs.length, yc, bCells xs⟩ : RowD), (⟨5, 1, xa, xs.length, xc, bCells xs⟩ : RowD), (⟨5, 1, some ⟨vb, 0, none⟩, M + 2, vc, bCells bs ++ [Value.int .u8 161, Value.int .u8 162]⟩ : RowD)]) (d := (⟨38, 3, some ⟨wb, 0, none⟩, N + 2, wk, zs⟩ : RowD)) (d' := (⟨38, 3, some ⟨wb, 0, none⟩, N + 2, wk, ys⟩ : RowD)) (es := []) hO hbw.size r2 r1 (fun k hk => .inl hk)⟩, hbw.trans (r2.below (B := w.heap.size) hbw.size (fun k _ hk => by cases hk; exact hwn))⟩
        clear HW hO hbw r1 r2 hwn
        go_wp2_with fail
        go_roundg (gk - 1)
        case rel => exact ⟨i + 1, by go_num, by omega, HN⟩
        case measure => omega
  case rest =>
  obtain ⟨w14, rfl⟩ : ∃ W, W = wc := ⟨_, rfl⟩
  have H14 : Hid ((∃ (zs : List Value) (us : List Int), Owned w.heap.size w14 [(⟨38, 3, qa, ds.length, qc, sCells ds⟩ : RowD), (⟨38, 3, pa, ds.length, pc, sCells ds⟩ : RowD), (⟨5, 1, ya, xs.length, yc, bCells xs⟩ : RowD), (⟨5, 1, xa, xs.length, xc, bCells xs⟩ : RowD), (⟨5, 1, some ⟨vb, 0, none⟩, M + 2, vc, us.map (Value.int .u8 ·)⟩ : RowD), (⟨38, 3, some ⟨wb, 0, none⟩, N + 2, wk, zs⟩ : RowD)]) ∧ Below w.heap.size w w14) := hd (by
    obtain ⟨⟨zs, hO⟩, hb⟩ := hcut.out
    refine ⟨⟨zs, bs.map (fun x : Nat => (x : Int)) ++ [161, 162], ?_⟩, hb⟩
    have h2 : (bs.map (fun x : Nat => (x : Int)) ++ [161, 162]).map (Value.int .u8 ·) = bCells bs ++ [Value.int .u8 161, Value.int .u8 162] := by simp [bCells]
    rw [h2]
    exact hO)
  clear hcut
  go_upto_block 2 with fail
  go_cut [21, 156] (fun v21 v156 wy => Hid ((∃ (zs : List Value) (us : List Int), Owned w.heap.size wy [(⟨38, 3, qa, ds.length, qc, sCells ds⟩ : RowD), (⟨38, 3, pa, ds.length, pc, sCells ds⟩ : RowD), (⟨5, 1, ya, xs.length, yc, bCells xs⟩ : RowD), (⟨5, 1, xa, xs.length, xc, bCells xs⟩ : RowD), (⟨5, 1, some ⟨vb, 0, none⟩, M + 2, vc, us.map (Value.int .u8 ·)⟩ : RowD), (⟨38, 3, some ⟨wb, 0, none⟩, N + 2, wk, zs⟩ : RowD)]) ∧ Below w.heap.size w wy))
  case first =>
    go_wp2_with fail
    go_loopg [21, 156, 157, 158, 159, 160, 161, 162, 163, 164, 165] (M + 2) (fun gg v21 v156 v157 v158 v159 v160 v161 v162 v163 v164 v165 wr => ∃ i : Nat, v156 = .int .i64 (i : Int) ∧ i + gg = (M + 2) ∧ Hid ((∃ (zs : List Value) (us : List Int), Owned w.heap.size wr [(⟨38, 3, qa, ds.length, qc, sCells ds⟩ : RowD), (⟨38, 3, pa, ds.length, pc, sCells ds⟩ : RowD), (⟨5, 1, ya, xs.length, yc, bCells xs⟩ : RowD), (⟨5, 1, xa, xs.length, xc, bCells xs⟩ : RowD), (⟨5, 1, some ⟨vb, 0, none⟩, M + 2, vc, us.map (Value.int .u8 ·)⟩ : RowD), (⟨38, 3, some ⟨wb, 0, none⟩, N + 2, wk, zs⟩ : RowD)]) ∧ Below w.heap.size w wr))
    case atStart => exact ⟨0, by go_num, by omega, hd H14.out⟩
    case round =>
      clear H14
      obtain ⟨i, rfl, hi, HW⟩ := hrel
      by_cases h0 : gk = 0
      · subst h0
        obtain rfl : i = M + 2 := by omega
        have hge : decide (((M + 2 : Nat) : Int) < ((M + 2 : Nat) : Int)) = false := by simp
        go_wp2_with fail
        go_meet
        exact HW
      · have hlt : (i : Int) < (((M + 2) : Nat) : Int) := by omega
        obtain ⟨⟨zs, us, hO⟩, hbw⟩ := HW.out
        have hrv : Row wr 5 1 (some ⟨vb, 0, none⟩) (M + 2) vc (us.map (Value.int .u8 ·)) := hO.ok (⟨5, 1, some ⟨vb, 0, none⟩, M + 2, vc, us.map (Value.int .u8 ·)⟩ : RowD) (by simp)
        have hul : us.length = M + 2 := by have := hrv.len; simpa using this
        have y := row_cell hrv i (.int .u8 (us.getD i 0)) (by simp [List.getD_eq_getElem?_getD, List.getElem?_eq_getElem (show i < us.length by omega)])
        have yf := row_free hrv i
        have hwn : w.heap.size ≤ vb := hO.new (⟨5, 1, some ⟨vb, 0, none⟩, M + 2, vc, us.map (Value.int .u8 ·)⟩ : RowD) (by simp) vb rfl
        have HN : Hid (∀ v : Int, (∃ (zs : List Value) (us : List Int), Owned w.heap.size (wr.setCell ⟨vb, i, none⟩ (.int .u8 v)) [(⟨38, 3, qa, ds.length, qc, sCells ds⟩ : RowD), (⟨38, 3, pa, ds.length, pc, sCells ds⟩ : RowD), (⟨5, 1, ya, xs.length, yc, bCells xs⟩ : RowD), (⟨5, 1, xa, xs.length, xc, bCells xs⟩ : RowD), (⟨5, 1, some ⟨vb, 0, none⟩, M + 2, vc, us.map (Value.int .u8 ·)⟩ : RowD), (⟨38, 3, some ⟨wb, 0, none⟩, N + 2, wk, zs⟩ : RowD)]) ∧ Below w.heap.size w (wr.setCell ⟨vb, i, none⟩ (.int .u8 v))) := hd (fun v => by
          have r1 := row_set hrv i (by omega) (.int .u8 v)
          refine ⟨⟨zs, us.set i v, Owned.turnAt (ds := [(⟨38, 3, qa, ds.length, qc, sCells ds⟩ : RowD), (⟨38, 3, pa, ds.length, pc, sCells ds⟩ : RowD), (⟨5, 1, ya, xs.length, yc, bCells xs⟩ : RowD), (⟨5, 1, xa, xs.length, xc, bCells xs⟩ : RowD)]) (d := (⟨5, 1, some ⟨vb, 0, none⟩, M + 2, vc, us.map (Value.int .u8 ·)⟩ : RowD)) (d' := (⟨5, 1, some ⟨vb, 0, none⟩, M + 2, vc, (us.set i v).map (Value.int .u8 ·)⟩ : RowD)) (es := [(⟨38, 3, some ⟨wb, 0, none⟩, N + 2, wk, zs⟩ : RowD)]) hO hbw.size r1.2.1 (by
            show Row _ _ _ _ _ _ _
            rw [List.map_set]
            exact r1.1) (fun k hk => .inl hk)⟩, hbw.trans (r1.2.1.below (B := w.heap.size) hbw.size (fun k _ hk => by cases hk; exact hwn))⟩)
        generalize us.getD i 0 = zz at *
        clear HW hO hbw hrv hul hwn
        go_wp2_with fail
        go_roundg (gk - 1)
        case rel => exact ⟨i + 1, by go_num, by omega, hd (HN.out _)⟩
        case measure => omega
  case rest =>
  obtain ⟨w15, rfl⟩ : ∃ W, W = wc := ⟨_, rfl⟩
  obtain ⟨⟨zs, us, hO⟩, hbw⟩ := hcut.out
  have O15 := hd (Owned.front (ds := [(⟨38, 3, qa, ds.length, qc, sCells ds⟩ : RowD), (⟨38, 3, pa, ds.length, pc, sCells ds⟩ : RowD), (⟨5, 1, ya, xs.length, yc, bCells xs⟩ : RowD), (⟨5, 1, xa, xs.length, xc, bCells xs⟩ : RowD)]) hO)
  have B15 := hd hbw
  clear hO hbw hcut
  have henc := HREnc.out w15 B15.out
  go_upto_region 25 with (go_at_call 12; refine henc.mono ?_; rintro e w16 ⟨na, nc, rfl, nr, nn, b16⟩; have O16 := hd (O15.out.plus B15.out.size b16 (d := ⟨5, 1, na, xs.length, nc, bCells xs⟩) nr nn); have B16 := hd (B15.out.trans (b16.mono B15.out.size)); clear b16 nr nn)
  clear henc HREnc O15 B15
  have hdec := HRDec.out w16 B16.out
  go_upto_region 26 with (go_at_call 14; refine hdec.mono ?_; rintro e w17 ⟨sa, sc, rfl, sr, sn, b17⟩; have O17 := hd (O16.out.plus B16.out.size b17 (d := ⟨38, 3, sa, ds.length, sc, sCells ds⟩) sr sn); have B17 := hd (B16.out.trans (b17.mono B16.out.size)); clear b17 sr sn)
  clear hdec HRDec O16 B16
  have hrX : Row w17 5 1 xa xs.length xc (bCells xs) := O17.out.ok (⟨5, 1, xa, xs.length, xc, bCells xs⟩ : RowD) (by simp)
  have hrY : Row w17 5 1 ya xs.length yc (bCells xs) := O17.out.ok (⟨5, 1, ya, xs.length, yc, bCells xs⟩ : RowD) (by simp)
  have hrN : Row w17 5 1 na xs.length nc (bCells xs) := O17.out.ok (⟨5, 1, na, xs.length, nc, bCells xs⟩ : RowD) (by simp)
  have hrP : Row w17 38 3 pa ds.length pc (sCells ds) := O17.out.ok (⟨38, 3, pa, ds.length, pc, sCells ds⟩ : RowD) (by simp)
  have hrQ : Row w17 38 3 qa ds.length qc (sCells ds) := O17.out.ok (⟨38, 3, qa, ds.length, qc, sCells ds⟩ : RowD) (by simp)
  have hrS : Row w17 38 3 sa ds.length sc (sCells ds) := O17.out.ok (⟨38, 3, sa, ds.length, sc, sCells ds⟩ : RowD) (by simp)
  have s1 := string_rd (w := w17) hrX.rd hbE.out (row_zero hrX)
  have s2 := string_rd (w := w17) hrY.rd hbE.out (row_zero hrY)
  have s3 := string_rd (w := w17) hrN.rd hbE.out (row_zero hrN)
  have hs1 := same_yes pa sa pc sc ds w17 (by omega) hrP.rd hrS.rd
  have hs2 : Hid (∀ n, Calls Try.prog 15 #[.slice qa ds.length qc, .slice sa ds.length sc] (w17.drewN n) _) := hd (fun n => same_yes qa sa qc sc ds (w17.drewN n) (by omega) (hrQ.below (below_draw w17 n)).rd (hrS.below (below_draw w17 n)).rd)
  obtain ⟨TX, hTX⟩ : ∃ TX, Hid (toU xs = TX) := ⟨_, rfl⟩
  rw [hTX.out] at s1 s2 s3
  clear hrX hrY hrN hrP hrQ hrS
  go_upto_region 28 with (first | (go_at_call 15; with_reducible refine hs1.mono ?_; rintro e w18 ⟨rfl, nd, hn⟩; subst hn; have hs3 := hs2.out nd; clear hs2) | (go_at_call 15; with_reducible refine hs3.mono ?_; rintro e w18 ⟨rfl, nd2, hn⟩; replace hn := hd hn))
  obtain ⟨n18, hn18⟩ : ∃ n, Hid (w18 = w17.drewN n) := ⟨nd + nd2, hd (by rw [hn.out, drewN_add])⟩
  have O18 : Hid ((∃ us, Owned w.heap.size w18 [(⟨38, 3, sa, ds.length, sc, sCells ds⟩ : RowD), (⟨5, 1, na, xs.length, nc, bCells xs⟩ : RowD), (⟨38, 3, qa, ds.length, qc, sCells ds⟩ : RowD), (⟨38, 3, pa, ds.length, pc, sCells ds⟩ : RowD), (⟨5, 1, ya, xs.length, yc, bCells xs⟩ : RowD), (⟨5, 1, xa, xs.length, xc, us⟩ : RowD)]) ∧ Below w.heap.size w w18) := hd (by
    rw [hn18.out]
    exact ⟨⟨_, O17.out.below (below_draw w17 n18)⟩, B17.out.trans ((below_draw w17 n18).mono B17.out.size)⟩)
  clear hn hn18 s1 s2 s3 hs1 hs3 O17 B17
  go_upto_block 4 with fail
  go_cut [28, 204] (fun v28 v204 wy => Hid ((∃ us, Owned w.heap.size wy [(⟨38, 3, sa, ds.length, sc, sCells ds⟩ : RowD), (⟨5, 1, na, xs.length, nc, bCells xs⟩ : RowD), (⟨38, 3, qa, ds.length, qc, sCells ds⟩ : RowD), (⟨38, 3, pa, ds.length, pc, sCells ds⟩ : RowD), (⟨5, 1, ya, xs.length, yc, bCells xs⟩ : RowD), (⟨5, 1, xa, xs.length, xc, us⟩ : RowD)]) ∧ Below w.heap.size w wy))
  case first =>
    go_wp2_with fail
    go_loopg [28, 204, 205, 206, 207, 208, 209, 210] xs.length (fun gg v28 v204 v205 v206 v207 v208 v209 v210 wr => ∃ i : Nat, v204 = .int .i64 (i : Int) ∧ i + gg = xs.length ∧ Hid ((∃ us, Owned w.heap.size wr [(⟨38, 3, sa, ds.length, sc, sCells ds⟩ : RowD), (⟨5, 1, na, xs.length, nc, bCells xs⟩ : RowD), (⟨38, 3, qa, ds.length, qc, sCells ds⟩ : RowD), (⟨38, 3, pa, ds.length, pc, sCells ds⟩ : RowD), (⟨5, 1, ya, xs.length, yc, bCells xs⟩ : RowD), (⟨5, 1, xa, xs.length, xc, us⟩ : RowD)]) ∧ Below w.heap.size w wr))
    case atStart => exact ⟨0, by go_num, by omega, hd O18.out⟩
    case round =>
      clear O18
      obtain ⟨i, rfl, hi, HW⟩ := hrel
      by_cases h0 : gk = 0
      · subst h0
        obtain rfl : i = xs.length := by omega
        have hge : decide (((xs.length : Nat) : Int) < ((xs.length : Nat) : Int)) = false := by simp
        go_wp2_with fail
        go_meet
        exact HW
      · have hlt : (i : Int) < ((xs.length : Nat) : Int) := by omega
        obtain ⟨⟨us, hO⟩, hbw⟩ := HW.out
        have hrx : Row wr 5 1 xa xs.length xc us := hO.ok (⟨5, 1, xa, xs.length, xc, us⟩ : RowD) (by simp)
        obtain ⟨xb, rfl⟩ := hrx.head (by omega)
        obtain ⟨r1, r2, r3, r4⟩ := row_set hrx i (by omega) (.int .u8 7)
        obtain ⟨vv, hv⟩ := Option.isSome_iff_exists.1 r3
        have hwn : w.heap.size ≤ xb := hO.new (⟨5, 1, some ⟨xb, 0, none⟩, xs.length, xc, us⟩ : RowD) (by simp) xb rfl
        have HN : Hid ((∃ us, Owned w.heap.size (wr.setCell ⟨xb, i, none⟩ (.int .u8 7)) [(⟨38, 3, sa, ds.length, sc, sCells ds⟩ : RowD), (⟨5, 1, na, xs.length, nc, bCells xs⟩ : RowD), (⟨38, 3, qa, ds.length, qc, sCells ds⟩ : RowD), (⟨38, 3, pa, ds.length, pc, sCells ds⟩ : RowD), (⟨5, 1, ya, xs.length, yc, bCells xs⟩ : RowD), (⟨5, 1, some ⟨xb, 0, none⟩, xs.length, xc, us⟩ : RowD)]) ∧ Below w.heap.size w (wr.setCell ⟨xb, i, none⟩ (.int .u8 7))) := hd ⟨⟨_, Owned.turnAt (ds := [(⟨38, 3, sa, ds.length, sc, sCells ds⟩ : RowD), (⟨5, 1, na, xs.length, nc, bCells xs⟩ : RowD), (⟨38, 3, qa, ds.length, qc, sCells ds⟩ : RowD), (⟨38, 3, pa, ds.length, pc, sCells ds⟩ : RowD), (⟨5, 1, ya, xs.length, yc, bCells xs⟩ : RowD)]) (d := (⟨5, 1, some ⟨xb, 0, none⟩, xs.length, xc, us⟩ : RowD)) (d' := (⟨5, 1, some ⟨xb, 0, none⟩, xs.length, xc, us.set i (.int .u8 7)⟩ : RowD)) (es := []) hO hbw.size r2 r1 (fun k hk => .inl hk)⟩, hbw.trans (r2.below (B := w.heap.size) hbw.size (fun k _ hk => by cases hk; exact hwn))⟩
        clear HW hO hbw hrx r1 r2 r3 hwn
        go_wp2_with fail
        go_roundg (gk - 1)
        case rel => exact ⟨i + 1, by go_num, by omega, HN⟩
        case measure => omega
  case rest =>
  obtain ⟨w19, rfl⟩ : ∃ W, W = wc := ⟨_, rfl⟩
  have O19 : Hid ((∃ zs us, Owned w.heap.size w19 [(⟨38, 3, sa, ds.length, sc, sCells ds⟩ : RowD), (⟨5, 1, na, xs.length, nc, bCells xs⟩ : RowD), (⟨38, 3, qa, ds.length, qc, sCells ds⟩ : RowD), (⟨38, 3, pa, ds.length, pc, zs⟩ : RowD), (⟨5, 1, ya, xs.length, yc, bCells xs⟩ : RowD), (⟨5, 1, xa, xs.length, xc, us⟩ : RowD)]) ∧ Below w.heap.size w w19) := hd ⟨⟨_, hcut.out.1⟩, hcut.out.2⟩
  clear hcut
  go_upto_block 6 with fail
  go_cut [29, 213] (fun v29 v213 wy => Hid ((∃ zs us, Owned w.heap.size wy [(⟨38, 3, sa, ds.length, sc, sCells ds⟩ : RowD), (⟨5, 1, na, xs.length, nc, bCells xs⟩ : RowD), (⟨38, 3, qa, ds.length, qc, sCells ds⟩ : RowD), (⟨38, 3, pa, ds.length, pc, zs⟩ : RowD), (⟨5, 1, ya, xs.length, yc, bCells xs⟩ : RowD), (⟨5, 1, xa, xs.length, xc, us⟩ : RowD)]) ∧ Below w.heap.size w wy))
  case first =>
    go_wp2_with fail
    go_loopg [29, 213, 214, 215, 216, 217, 218, 219, 220] ds.length (fun gg v29 v213 v214 v215 v216 v217 v218 v219 v220 wr => ∃ i : Nat, v213 = .int .i64 (i : Int) ∧ i + gg = ds.length ∧ Hid ((∃ zs us, Owned w.heap.size wr [(⟨38, 3, sa, ds.length, sc, sCells ds⟩ : RowD), (⟨5, 1, na, xs.length, nc, bCells xs⟩ : RowD), (⟨38, 3, qa, ds.length, qc, sCells ds⟩ : RowD), (⟨38, 3, pa, ds.length, pc, zs⟩ : RowD), (⟨5, 1, ya, xs.length, yc, bCells xs⟩ : RowD), (⟨5, 1, xa, xs.length, xc, us⟩ : RowD)]) ∧ Below w.heap.size w wr))
    case atStart => exact ⟨0, by go_num, by omega, hd O19.out⟩
    case round =>
      clear O19
      obtain ⟨i, rfl, hi, HW⟩ := hrel
      by_cases h0 : gk = 0
      · subst h0
        obtain rfl : i = ds.length := by omega
        have hge : decide (((ds.length : Nat) : Int) < ((ds.length : Nat) : Int)) = false := by simp
        go_wp2_with fail
        go_meet
        exact HW
      · have hlt : (i : Int) < ((ds.length : Nat) : Int) := by omega
        obtain ⟨⟨zs, us, hO⟩, hbw⟩ := HW.out
        have hrp : Row wr 38 3 pa ds.length pc zs := hO.ok (⟨38, 3, pa, ds.length, pc, zs⟩ : RowD) (by simp)
        obtain ⟨pb, rfl⟩ := hrp.head (by omega)
        obtain ⟨⟨ys, r1⟩, r2, ⟨k0, k1, k2⟩, fz⟩ := row_set3 hrp i (by omega) (.int .i64 99) (.int .i64 0) (.int .i64 0)
        obtain ⟨u0, k0⟩ := Option.isSome_iff_exists.1 k0
        obtain ⟨u1, k1⟩ := Option.isSome_iff_exists.1 k1
        obtain ⟨u2, k2⟩ := Option.isSome_iff_exists.1 k2
        have hwn : w.heap.size ≤ pb := hO.new (⟨38, 3, some ⟨pb, 0, none⟩, ds.length, pc, zs⟩ : RowD) (by simp) pb rfl
        have HN : Hid ((∃ zs us, Owned w.heap.size (((wr.setCell ⟨pb, i * 3, none⟩ (.int .i64 99)).setCell ⟨pb, i * 3 + 1, none⟩ (.int .i64 0)).setCell ⟨pb, i * 3 + 2, none⟩ (.int .i64 0)) [(⟨38, 3, sa, ds.length, sc, sCells ds⟩ : RowD), (⟨5, 1, na, xs.length, nc, bCells xs⟩ : RowD), (⟨38, 3, qa, ds.length, qc, sCells ds⟩ : RowD), (⟨38, 3, some ⟨pb, 0, none⟩, ds.length, pc, zs⟩ : RowD), (⟨5, 1, ya, xs.length, yc, bCells xs⟩ : RowD), (⟨5, 1, xa, xs.length, xc, us⟩ : RowD)]) ∧ Below w.heap.size w (((wr.setCell ⟨pb, i * 3, none⟩ (.int .i64 99)).setCell ⟨pb, i * 3 + 1, none⟩ (.int .i64 0)).setCell ⟨pb, i * 3 + 2, none⟩ (.int .i64 0))) := hd ⟨⟨ys, us, Owned.turnAt (ds := [(⟨38, 3, sa, ds.length, sc, sCells ds⟩ : RowD), (⟨5, 1, na, xs.length, nc, bCells xs⟩ : RowD), (⟨38, 3, qa, ds.length, qc, sCells ds⟩ : RowD)]) (d := (⟨38, 3, some ⟨pb, 0, none⟩, ds.length, pc, zs⟩ : RowD)) (d' := (⟨38, 3, some ⟨pb, 0, none⟩, ds.length, pc, ys⟩ : RowD)) (es := [(⟨5, 1, ya, xs.length, yc, bCells xs⟩ : RowD), (⟨5, 1, xa, xs.length, xc, us⟩ : RowD)]) hO hbw.size r2 r1 (fun k hk => .inl hk)⟩, hbw.trans (r2.below (B := w.heap.size) hbw.size (fun k _ hk => by cases hk; exact hwn))⟩
        clear HW hO hbw hrp r1 r2 hwn
        go_wp2_with fail
        go_roundg (gk - 1)
        case rel => exact ⟨i + 1, by go_num, by omega, HN⟩
        case measure => omega
  case rest =>
  obtain ⟨w20, rfl⟩ : ∃ W, W = wc := ⟨_, rfl⟩
  obtain ⟨⟨zs, us, hO⟩, hbw⟩ := hcut.out
  have O20 := hd hO
  have B20 := hd hbw
  clear hcut hO hbw
  go_upto_block 8 with fail
  go_cut [7, 13, 221] (fun v7 v13 v221 wy => ∃ (xa' : Option Addr) (xc' : Nat) (pa' : Option Addr) (pc' : Nat), v7 = .slice xa' (xs.length + 40) xc' ∧ v13 = .slice pa' (ds.length + 40) pc' ∧ Hid ((∃ zs us, Owned w.heap.size wy [(⟨38, 3, sa, ds.length, sc, sCells ds⟩ : RowD), (⟨5, 1, na, xs.length, nc, bCells xs⟩ : RowD), (⟨38, 3, qa, ds.length, qc, sCells ds⟩ : RowD), (⟨38, 3, pa', ds.length + 40, pc', zs⟩ : RowD), (⟨5, 1, ya, xs.length, yc, bCells xs⟩ : RowD), (⟨5, 1, xa', xs.length + 40, xc', us⟩ : RowD)]) ∧ Below w.heap.size w wy))
  case first =>
    go_wp2_with fail
    go_loopg [7, 13, 221, 222, 223, 224, 225, 226, 227, 228, 229, 230] 40 (fun gg v7 v13 v221 v222 v223 v224 v225 v226 v227 v228 v229 v230 wr => ∃ (i : Nat) (xa' : Option Addr) (xc' : Nat) (pa' : Option Addr) (pc' : Nat), v221 = .int .i64 (i : Int) ∧ i + gg = 40 ∧ v7 = .slice xa' (xs.length + i) xc' ∧ v13 = .slice pa' (ds.length + i) pc' ∧ Hid ((∃ zs us, Owned w.heap.size wr [(⟨38, 3, sa, ds.length, sc, sCells ds⟩ : RowD), (⟨5, 1, na, xs.length, nc, bCells xs⟩ : RowD), (⟨38, 3, qa, ds.length, qc, sCells ds⟩ : RowD), (⟨38, 3, pa', ds.length + i, pc', zs⟩ : RowD), (⟨5, 1, ya, xs.length, yc, bCells xs⟩ : RowD), (⟨5, 1, xa', xs.length + i, xc', us⟩ : RowD)]) ∧ Below w.heap.size w wr))
    case atStart => exact ⟨0, xa, xc, pa, pc, by go_num, by omega, rfl, rfl, hd ⟨⟨_, _, O20.out⟩, B20.out⟩⟩
    case round =>
      clear O20 B20
      obtain ⟨i, xa', xc', pa', pc', rfl, hi, rfl, rfl, HW⟩ := hrel
      by_cases h0 : gk = 0
      · subst h0
        obtain rfl : i = 40 := by omega
        go_wp2_with fail
        go_meet
        exact ⟨xa', xc', pa', pc', rfl, rfl, HW⟩
      · have hlt : (i : Int) < 40 := by omega
        obtain ⟨⟨zs, us, hO⟩, hbw⟩ := HW.out
        have hrx : Row wr 5 1 xa' (xs.length + i) xc' us := hO.ok (⟨5, 1, xa', xs.length + i, xc', us⟩ : RowD) (by simp)
        have hrp0 : Row wr 38 3 pa' (ds.length + i) pc' zs := hO.ok (⟨38, 3, pa', ds.length + i, pc', zs⟩ : RowD) (by simp)
        obtain ⟨x2, y2, u2, hap, r1, m1, n1⟩ := push_any Try.underlying27 info_u8 rfl (by omega) hrx (by omega) [.int .u8 8] rfl (by decide)
        have hO2 : Owned w.heap.size u2 [(⟨38, 3, sa, ds.length, sc, sCells ds⟩ : RowD), (⟨5, 1, na, xs.length, nc, bCells xs⟩ : RowD), (⟨38, 3, qa, ds.length, qc, sCells ds⟩ : RowD), (⟨38, 3, pa', ds.length + i, pc', zs⟩ : RowD), (⟨5, 1, ya, xs.length, yc, bCells xs⟩ : RowD), (⟨5, 1, x2, xs.length + (i + 1), y2, (us ++ [Value.int .u8 8])⟩ : RowD)] := Owned.turnAt (ds := [(⟨38, 3, sa, ds.length, sc, sCells ds⟩ : RowD), (⟨5, 1, na, xs.length, nc, bCells xs⟩ : RowD), (⟨38, 3, qa, ds.length, qc, sCells ds⟩ : RowD), (⟨38, 3, pa', ds.length + i, pc', zs⟩ : RowD), (⟨5, 1, ya, xs.length, yc, bCells xs⟩ : RowD)]) (d := (⟨5, 1, xa', xs.length + i, xc', us⟩ : RowD)) (d' := (⟨5, 1, x2, xs.length + (i + 1), y2, (us ++ [Value.int .u8 8])⟩ : RowD)) (es := []) hO hbw.size m1 r1 n1
        have hb2 : Below w.heap.size w u2 := hbw.trans (m1.below (B := w.heap.size) hbw.size (fun k _ hk => hO.new (⟨5, 1, xa', xs.length + i, xc', us⟩ : RowD) (by simp) k hk))
        have hrp : Row u2 38 3 pa' (ds.length + i) pc' zs := hO2.ok (⟨38, 3, pa', ds.length + i, pc', zs⟩ : RowD) (by simp)
        obtain ⟨x3, y3, u3, hap3, r3, m3, n3⟩ := push_any Try.underlying23 info_step rfl (by omega) hrp (by omega) [.int .i64 98, .int .i64 0, .int .i64 0] rfl (by decide)
        have HN : Hid ((∃ zs us, Owned w.heap.size u3 [(⟨38, 3, sa, ds.length, sc, sCells ds⟩ : RowD), (⟨5, 1, na, xs.length, nc, bCells xs⟩ : RowD), (⟨38, 3, qa, ds.length, qc, sCells ds⟩ : RowD), (⟨38, 3, x3, ds.length + (i + 1), y3, zs⟩ : RowD), (⟨5, 1, ya, xs.length, yc, bCells xs⟩ : RowD), (⟨5, 1, x2, xs.length + (i + 1), y2, us⟩ : RowD)]) ∧ Below w.heap.size w u3) := hd ⟨⟨_, _, Owned.turnAt (ds := [(⟨38, 3, sa, ds.length, sc, sCells ds⟩ : RowD), (⟨5, 1, na, xs.length, nc, bCells xs⟩ : RowD), (⟨38, 3, qa, ds.length, qc, sCells ds⟩ : RowD)]) (d := (⟨38, 3, pa', ds.length + i, pc', zs⟩ : RowD)) (d' := (⟨38, 3, x3, ds.length + (i + 1), y3, (zs ++ [Value.int .i64 98, .int .i64 0, .int .i64 0])⟩ : RowD)) (es := [(⟨5, 1, ya, xs.length, yc, bCells xs⟩ : RowD), (⟨5, 1, x2, xs.length + (i + 1), y2, (us ++ [Value.int .u8 8])⟩ : RowD)]) hO2 hb2.size m3 r3 n3⟩, hb2.trans (m3.below (B := w.heap.size) hb2.size (fun k _ hk => hO2.new (⟨38, 3, pa', ds.length + i, pc', zs⟩ : RowD) (by simp) k hk))⟩
        replace hap := hd hap
        replace hap3 := hd hap3
        clear HW hO hbw hrx hrp0 hrp r1 m1 n1 hO2 hb2 r3 m3 n3
        go_wp2_with (first | (at_builtin; refine wpList_append_run rfl _ _ _ rfl _ _ _ _ rfl rfl hap.out ?_; clear hap) | (at_builtin; refine wpList_append_run rfl _ _ _ rfl _ _ _ _ rfl rfl hap3.out ?_; clear hap3))
        go_roundg (gk - 1)
        case rel => exact ⟨i + 1, x2, y2, x3, y3, by go_num, by omega, rfl, rfl, HN⟩
        case measure => omega
  case rest =>
  obtain ⟨xa', xc', pa', pc', rfl, rfl, HW⟩ := hcut
  obtain ⟨w21, rfl⟩ : ∃ W, W = wc := ⟨_, rfl⟩
  obtain ⟨⟨zs', us', hO⟩, hbw⟩ := HW.out
  have hrY : Row w21 5 1 ya xs.length yc (bCells xs) := hO.ok (⟨5, 1, ya, xs.length, yc, bCells xs⟩ : RowD) (by simp)
  have hrN : Row w21 5 1 na xs.length nc (bCells xs) := hO.ok (⟨5, 1, na, xs.length, nc, bCells xs⟩ : RowD) (by simp)
  have hrQ : Row w21 38 3 qa ds.length qc (sCells ds) := hO.ok (⟨38, 3, qa, ds.length, qc, sCells ds⟩ : RowD) (by simp)
  have hrS : Row w21 38 3 sa ds.length sc (sCells ds) := hO.ok (⟨38, 3, sa, ds.length, sc, sCells ds⟩ : RowD) (by simp)
  have s2 := string_rd (w := w21) hrY.rd hbE.out (row_zero hrY)
  have s3 := string_rd (w := w21) hrN.rd hbE.out (row_zero hrN)
  have hs1 := same_yes qa sa qc sc ds w21 (by omega) hrQ.rd hrS.rd
  rw [hTX.out] at s2 s3
  have B21 := hd hbw
  clear hrY hrN hrQ hrS hO hbw HW O20 B20
  go_wp2_with (go_at_call 15; refine hs1.mono ?_; rintro e w22 ⟨rfl, hw22⟩; replace hw22 := hd hw22)
  go_ret
  refine ⟨rfl, ?_⟩
  obtain ⟨n, rfl⟩ := hw22.out
  exact B21.out.trans ((below_draw w21 n).mono B21.out.size)
end Go.Proofs.Ytnkanaccacephaa
