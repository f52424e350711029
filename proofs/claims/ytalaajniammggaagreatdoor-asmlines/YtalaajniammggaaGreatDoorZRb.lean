/- The document's line. -/
import Derived.Test.YtalaajniammggaaGreatDoorZRa
import Derived.Test.YtalaajniammggaaGreatDoorZAg
namespace Go.Proofs.YtalaajniammggaaGreatDoor
open Go.RowKit

/-- What is put together so far. -/
def Sofar (W0 : World) (N : Nat) (L : List UInt8) (v : Value) (wy : World) : Prop := ∃ S : ByteArray, v = .string S ∧ S.size ≤ N ∧ Hid (S = ⟨L.toArray⟩) ∧ Hid (Below W0.heap.size W0 wy)

theorem sofar_add {W0 : World} {N : Nat} {L M : List UInt8} {S P : ByteArray} {wy : World} (hz : S.size ≤ N) (hS : Hid (S = ⟨L.toArray⟩)) (hP : Hid (P = ⟨M.toArray⟩)) (hM : M.length ≤ 31) (hb : Below W0.heap.size W0 wy) : Sofar W0 (N + 31) (L ++ M) (.string (S ++ P)) wy := by
  refine ⟨_, rfl, ?_, Lib.hid ?_, Lib.hid hb⟩
  · have h1 : P.size = M.length := by rw [hP.out, ba_sz]
    rw [ByteArray.size_append]
    omega
  · rw [hS.out, hP.out, ba_app]
theorem sofar_keep {W0 : World} {N : Nat} {L : List UInt8} {v : Value} {wy : World} (h : Sofar W0 N L v wy) : Sofar W0 (N + 31) (L ++ []) v wy := by
  obtain ⟨S, e, hz, hS, hb⟩ := h
  exact ⟨S, e, by omega, Lib.hid (by rw [List.append_nil]; exact hS.out), hb⟩

theorem reg_part (r : Int) (h : InR r) : ∃ P Q : ByteArray, Hid (⟨(Lib.itoa r).toArray⟩ = P) ∧ (∀ W, (Op.stringOp .add ⟨#[32, 114]⟩ P).run Tryz.prog W = .ok (.string Q) W) ∧ Hid (Q = ⟨(32 :: regL r).toArray⟩) ∧ (32 :: regL r).length ≤ 31 ∧ Q.size ≤ 31 := by
  have hl := Lib.itoa_length_le r h.1 h.2
  have e : ((⟨#[32, 114]⟩ : ByteArray) ++ ⟨(Lib.itoa r).toArray⟩) = ⟨(32 :: regL r).toArray⟩ := ba_app [32, 114] (Lib.itoa r)
  have hn : (32 :: regL r).length ≤ 31 := by unfold regL; simp; omega
  refine ⟨_, _, rfl, fun W => add_ok _ _ ?_ W, Lib.hid e, hn, ?_⟩
  · have e2 := ba_sz (Lib.itoa r)
    show 2 + (⟨(Lib.itoa r).toArray⟩ : ByteArray).size ≤ _
    omega
  · rw [e, ba_sz]; exact hn

set_option maxRecDepth 100000 in
set_option maxHeartbeats 2000000 in
theorem rline_any (V : Env) (D : DEnv V) (x : Ins) (o : Nat) (hxo : x.op = (o : Int)) (ho : o < 34) (hx : InsR x) (w : World) (A : V.A w) :
    Calls Tryz.prog 24 #[insV x] w fun e w' => e = .returned (.string ⟨(lineL V.fp x).toArray⟩) ∧ Below w.heap.size w w' := by
  obtain ⟨cx, hcx⟩ : ∃ c, Hid (c = Obj.cells #[.int .i64 o, .int .i64 x.a, .int .i64 x.b, .int .i64 x.c, .int .i64 x.imm] 37) := ⟨_, rfl⟩
  obtain ⟨W, hW⟩ : ∃ W, Hid (W = w.alloc cx) := ⟨_, rfl⟩
  have BW : Below w.heap.size w W := by rw [hW.out]; exact (Below.refl _ w).alloc (Nat.le_refl _) cx
  have hin : Hid (InsAt W w.heap.size 0 x) := Lib.hid (by rw [hW.out, hcx.out]; constructor <;> simp [go_sem, hxo])
  have hWd := fun W' => rword_any o ho W'
  have hF := fun W' => rfields_any (o : Int) W'
  have HA : Hid (∀ W', Below W.heap.size W W' → V.A W') := Lib.hid (fun W' h => V.kept A (BW.trans (h.mono BW.size)))
  have hI : ∀ (r : Int), InR r → ∀ W', Below W.heap.size W W' → _ := fun r hr W' h => itoa_any V r hr.1 hr.2 W' (HA.out W' h)
  have hM : ∀ W', Below W.heap.size W W' → _ := fun W' h => rimm_any V D x hx.imm W' (HA.out W' h)
  have hL : lineL V.fp x = wordL (o : Int) ++ restL V.fp x (fieldsN (o : Int)) := by unfold lineL; rw [hxo]
  rw [rest_parts] at hL
  obtain ⟨R, hR⟩ : ∃ S : ByteArray, Hid (S = ⟨(lineL V.fp x).toArray⟩) := ⟨_, rfl⟩
  rw [← hR.out]
  obtain ⟨Pa, Qa, hPa, ada, hQa, la, za⟩ := reg_part x.a hx.a
  obtain ⟨Pb, Qb, hPb, adb, hQb, lb, zb⟩ := reg_part x.b hx.b
  obtain ⟨Pc, Qc, hPc, adc, hQc, lc, zc⟩ := reg_part x.c hx.c
  obtain ⟨Pi, hPi⟩ : ∃ P : ByteArray, Hid (⟨(immL V.fp x.op x.imm).toArray⟩ = P) := ⟨_, rfl⟩
  have li : (32 :: immL V.fp x.op x.imm).length ≤ 31 := by have := fld_len V.F hx 3; simp [fldL] at this ⊢; omega
  obtain ⟨Qi, adi, hQi, zi⟩ : ∃ Q : ByteArray, (∀ W, (Op.stringOp .add ⟨#[32]⟩ Pi).run Tryz.prog W = .ok (.string Q) W) ∧ Hid (Q = ⟨(32 :: immL V.fp x.op x.imm).toArray⟩) ∧ Q.size ≤ 31 := by
    have e : ((⟨#[32]⟩ : ByteArray) ++ Pi) = ⟨(32 :: immL V.fp x.op x.imm).toArray⟩ := by rw [← hPi.out]; exact ba_app [32] (immL V.fp x.op x.imm)
    refine ⟨_, fun W => add_ok _ _ ?_ W, Lib.hid e, ?_⟩
    · have := ba_sz (immL V.fp x.op x.imm)
      rw [hPi.out] at this
      simp at li
      show 1 + Pi.size ≤ _
      omega
    · rw [e, ba_sz]; exact li
  have ha := hI x.a hx.a
  have hb := hI x.b hx.b
  have hc := hI x.c hx.c
  rw [hPa.out] at ha
  rw [hPb.out] at hb
  rw [hPc.out] at hc
  rw [hPi.out] at hM
  obtain ⟨S0, hS0⟩ : ∃ S : ByteArray, Hid (S = ⟨(wordL (o : Int)).toArray⟩) := ⟨_, rfl⟩
  have z0 : S0.size ≤ 10 := by rw [hS0.out, ba_sz]; exact word_len _
  rw [← hS0.out] at hWd
  have HL := Lib.hid hL
  generalize hA (o : Int) = fa at *
  generalize hB (o : Int) = fb at *
  generalize hC (o : Int) = fc at *
  generalize Go.Proofs.YtalaajniammggaaGreatDoor.hI (o : Int) = fi at *
  unfold insV at hM ⊢
  rw [hxo] at hM ⊢
  clear hPa hPb hPc hPi hL hI A hx
  go_enter Tryz.func24, Tryz.ntmps24
  go_wp2_with fail
  rw [← hcx.out, ← hW.out]
  refine (hWd _).mono ?_
  rintro e w1 ⟨rfl, b1⟩
  obtain ⟨j0, j1, j2, j3, j4⟩ := hin.out.kept b1
  rw [hxo] at j0
  go_wp2_with fail
  refine (hF _).mono ?_
  rintro e w2 ⟨rfl, rfl⟩
  have SF0 : Sofar W 10 (wordL (o : Int)) (.string S0) w2 := ⟨S0, rfl, z0, hS0, Lib.hid b1⟩
  have HS0 := Lib.hid SF0
  clear hWd hF SF0 hcx hW j0 j1 j2 j3 j4 b1
  go_upto_if 19 with fail
  go_cut [3] from 20 to 25 (fun s3 wy => Sofar W 41 (wordL (o : Int) ++ (if fa = true then 32 :: regL x.a else [])) s3 wy)
  case first =>
    obtain ⟨S, e, hz, hS, hB⟩ := HS0.out
    simp only [Value.string.injEq] at e
    subst e
    cases fa
    · go_wp2_with fail
      go_meet
      simpa using sofar_keep HS0.out
    · obtain ⟨j0, j1, j2, j3, j4⟩ := hin.out.kept hB.out
      have hcall := ha _ hB.out
      have ad2 := add_ok S0 Qa (by omega)
      go_wp2_with fail
      refine hcall.mono ?_
      rintro e w3 ⟨rfl, b3⟩
      have B3 := hB.out.trans (b3.mono hB.out.size)
      go_wp2_with fail
      go_meet
      simpa using sofar_add hz hS hQa la B3
  case rest =>
    have HS0 := Lib.hid hcut
    obtain ⟨S, rfl, hz, hS, hB⟩ := hcut
    go_upto_if 26 with fail
    go_cut [3] from 27 to 32 (fun s3 wy => Sofar W 72 ((wordL (o : Int) ++ (if fa = true then 32 :: regL x.a else [])) ++ (if fb = true then 32 :: regL x.b else [])) s3 wy)
    case first =>
      cases fb
      · go_wp2_with fail
        go_meet
        simpa using sofar_keep HS0.out
      · obtain ⟨j0, j1, j2, j3, j4⟩ := hin.out.kept hB.out
        rw [hxo] at j0
        have hcall := hb _ hB.out
        have ad2 := add_ok S Qb (by omega)
        go_wp2_with fail
        refine hcall.mono ?_
        rintro e w3 ⟨rfl, b3⟩
        have B3 := hB.out.trans (b3.mono hB.out.size)
        go_wp2_with fail
        go_meet
        simpa using sofar_add hz hS hQb lb B3
    case rest =>
      have HS0 := Lib.hid hcut
      obtain ⟨S, rfl, hz, hS, hB⟩ := hcut
      go_upto_if 33 with fail
      go_cut [3] from 34 to 39 (fun s3 wy => Sofar W 103 (((wordL (o : Int) ++ (if fa = true then 32 :: regL x.a else [])) ++ (if fb = true then 32 :: regL x.b else [])) ++ (if fc = true then 32 :: regL x.c else [])) s3 wy)
      case first =>
        cases fc
        · go_wp2_with fail
          go_meet
          simpa using sofar_keep HS0.out
        · obtain ⟨j0, j1, j2, j3, j4⟩ := hin.out.kept hB.out
          rw [hxo] at j0
          have hcall := hc _ hB.out
          have ad2 := add_ok S Qc (by omega)
          go_wp2_with fail
          refine hcall.mono ?_
          rintro e w3 ⟨rfl, b3⟩
          have B3 := hB.out.trans (b3.mono hB.out.size)
          go_wp2_with fail
          go_meet
          simpa using sofar_add hz hS hQc lc B3
      case rest =>
        have HS0 := Lib.hid hcut
        obtain ⟨S, rfl, hz, hS, hB⟩ := hcut
        go_upto_if 40 with fail
        go_cut [3] from 41 to 45 (fun s3 wy => Sofar W 134 ((((wordL (o : Int) ++ (if fa = true then 32 :: regL x.a else [])) ++ (if fb = true then 32 :: regL x.b else [])) ++ (if fc = true then 32 :: regL x.c else [])) ++ (if fi = true then 32 :: immL V.fp x.op x.imm else [])) s3 wy)
        case first =>
          cases fi
          · go_wp2_with fail
            go_meet
            simpa using sofar_keep HS0.out
          · obtain ⟨j0, j1, j2, j3, j4⟩ := hin.out.kept hB.out
            rw [hxo] at j0
            have hcall := hM _ hB.out
            have ad2 := add_ok S Qi (by omega)
            go_wp2_with fail
            refine hcall.mono ?_
            rintro e w3 ⟨rfl, b3⟩
            have B3 := hB.out.trans (b3.mono hB.out.size)
            go_wp2_with fail
            go_meet
            simpa using sofar_add hz hS hQi li B3
        case rest =>
          obtain ⟨S, rfl, hz, hS, hB⟩ := hcut
          have HE : Hid (S = R) := Lib.hid (by
            rw [hS.out, hR.out, HL.out]
            simp only [List.append_assoc])
          go_wp2_with fail
          go_ret
          exact ⟨ret_str HE.out, BW.trans (hB.out.mono BW.size)⟩
end Go.Proofs.YtalaajniammggaaGreatDoor

/- The document's text of a program; AsmPrints. -/
namespace Go.Proofs.YtalaajniammggaaGreatDoor
open Go.RowKit

set_option maxRecDepth 100000 in
set_option maxHeartbeats 2000000 in
theorem rprint_prog (V : Env) (D : DEnv V) (a : Option Addr) (cap : Nat) (l : List Ins) (hf : ∀ x ∈ l, InR x.imm) (w : World) (hP : Prg w a l) (A : V.A w) :
    Calls Tryz.prog 12 #[.slice a l.length cap] w fun e w' => e = .returned (.tuple #[.string ⟨(printA V.fp l).1.toArray⟩, .int .i64 (printA V.fp l).2.1, .int .i64 (printA V.fp l).2.2]) ∧ Below w.heap.size w w' := by
  have hm := rmay_any a cap l 8 w hP
  have HA := Lib.hid A
  have HP := Lib.hid hP
  by_cases hz : (mayL l 8).1 = 0
  · have ez := may_zero hz
    have e1 : printA V.fp l = (textL V.fp l, 0, 0) := by unfold printA; rw [if_pos hz]
    rw [ez] at hm
    rw [e1]
    obtain ⟨hlen, hall⟩ := may_iff.1 hz
    have HX : Hid (∀ x ∈ l, (wrong x l.length 8).1 = 0 ∧ InsR x) := Lib.hid (fun x hx => ⟨hall x hx, insR_of (hall x hx) (hf x hx)⟩)
    obtain ⟨n, hn⟩ : ∃ n, Hid (l.length = n) := ⟨_, rfl⟩
    rw [hn.out] at hm hlen ⊢
    obtain ⟨T, hT⟩ : ∃ T : ByteArray, Hid (T = ⟨(textL V.fp l).toArray⟩) := ⟨_, rfl⟩
    simp only
    rw [← hT.out]
    clear hP A hz ez e1 hall hf
    go_enter Tryz.func12, Tryz.ntmps12
    go_wp2_with fail
    refine hm.mono ?_
    rintro e w1 ⟨rfl, b1⟩
    clear hm
    go_wp2_with fail
    go_loopw [7, 8] (fun s7 s8 wr => ∃ (k : Nat) (S : ByteArray), s8 = .int .i64 k ∧ k ≤ n ∧ s7 = .string S ∧ S.size ≤ 135 * k ∧ Hid (S = ⟨(textL V.fp (l.take k)).toArray⟩) ∧ Below w.heap.size w wr) (fun _ s8 _ => n - (intOf s8).toNat)
    case atStart => exact ⟨0, ⟨#[]⟩, rfl, by omega, rfl, by decide, Lib.hid (by simp [textL]), b1⟩
    case round =>
      obtain ⟨k, S, rfl, hk, rfl, hz, HS, hb⟩ := hrel
      by_cases hlt : k < n
      · have hlt' : (k : Int) < (n : Int) := by omega
        have hkl : k < l.length := by rw [hn.out]; exact hlt
        obtain ⟨bb, off, ea, hx⟩ := HP.out k hkl
        have hx := hx.kept hb
        have hmem : l.getD k default ∈ l := getD_mem hkl
        obtain ⟨hwx, hRx⟩ := HX.out _ hmem
        have hsn : l.take (k + 1) = l.take k ++ [l.getD k default] := by
          rw [List.take_add_one, List.getD_eq_getElem?_getD, List.getElem?_eq_getElem hkl]
          rfl
        generalize l.getD k default = x at *
        obtain ⟨o, ho, ho34⟩ : ∃ o : Nat, x.op = (o : Int) ∧ o < 34 := ⟨x.op.toNat, by have := wrong_ok hwx; omega, by have := wrong_ok hwx; omega⟩
        have hLn := rline_any V D x o ho ho34 hRx wr (V.kept HA.out hb)
        obtain ⟨P, hPP⟩ : ∃ P : ByteArray, Hid (P = ⟨(lineL V.fp x).toArray⟩) := ⟨_, rfl⟩
        have zP : P.size ≤ 134 := by rw [hPP.out, ba_sz]; exact line_le V.F hRx
        rw [← hPP.out] at hLn
        have ad1 := add_ok S P (by omega)
        have z1 : (S ++ P).size = S.size + P.size := ByteArray.size_append
        have ad2 := add_ok (S ++ P) ⟨#[10]⟩ (by rw [z1]; show S.size + P.size + 1 ≤ _; omega)
        have z2 : ((S ++ P) ++ ⟨#[10]⟩).size ≤ 135 * (k + 1) := by rw [ByteArray.size_append, z1]; show S.size + P.size + 1 ≤ _; omega
        have HS' : Hid ((S ++ P) ++ ⟨#[10]⟩ = ⟨(textL V.fp (l.take (k + 1))).toArray⟩) := Lib.hid (by
          rw [HS.out, hPP.out, hsn, text_snoc, ba_app]
          have := ba_app (textL V.fp (l.take k) ++ lineL V.fp x) [10]
          rw [List.append_assoc] at this
          exact this)
        obtain ⟨k0, k1, k2, k3, k4⟩ := hx
        unfold insV at hLn
        subst ea
        clear HS hsn hmem hPP hwx z1 ho
        go_wp2_with fail
        refine hLn.mono ?_
        rintro e w2 ⟨rfl, b2⟩
        have hb2 := hb.trans (b2.mono hb.size)
        go_wp2_with fail
        first
          | exact ⟨⟨k + 1, _, by go_num, by omega, rfl, z2, HS', hb2⟩, by simp [intOf]; omega⟩
          | (go_roundw
             case rel => exact ⟨k + 1, _, by go_num, by omega, rfl, z2, HS', hb2⟩
             case measure => simp [intOf]; omega)
      · have hltd : decide ((k : Int) < (n : Int)) = false := by simp; omega
        have ek : k = n := by omega
        have HE : Hid (S = T) := Lib.hid (by rw [HS.out, hT.out, ek, ← hn.out, List.take_length])
        clear HS ek
        go_wp2_with fail
        go_ret3
        exact ⟨by rw [HE.out]; rfl, hb⟩
  · have e1 : printA V.fp l = ([], (mayL l 8).1, (mayL l 8).2) := by unfold printA; rw [if_neg hz]
    rw [e1]
    have dz : ((mayL l 8).1 == 0) = false := by simpa using hz
    generalize (mayL l 8).1 = E at *
    generalize (mayL l 8).2 = P at *
    clear e1 hP A hf hz
    go_enter Tryz.func12, Tryz.ntmps12
    go_wp2_with fail
    refine hm.mono ?_
    rintro e w1 ⟨rfl, b1⟩
    go_wp2_with fail
    go_ret3
    exact ⟨rfl, b1⟩

set_option maxRecDepth 100000 in
set_option maxHeartbeats 2000000 in
theorem asmPrints_walk (V : Env) (D : DEnv V) (a : Option Addr) (cap : Nat) (l : List Ins) (hlc : l.length ≤ cap) (hf : ∀ x ∈ l, InR x.imm) (w : World) (hP : Prg w a l) (A : V.A w) :
    Calls Tryz.prog 4 #[.slice a l.length cap] w fun e w' => e = .returned (.bool true) ∧ Below w.heap.size w w' := by
  have hAw := awake_any V w A
  have hSh := fun W => cshort_any a l.length cap W hlc
  obtain ⟨m, hm⟩ : ∃ m, Hid (l.take 1048576 = m) := ⟨_, rfl⟩
  have hml : Hid (m.length = min l.length 1048576) := Lib.hid (by rw [← hm.out, List.length_take]; omega)
  have hPm : Hid (Prg w a m) := Lib.hid (by rw [← hm.out]; exact hP.take _)
  have hfm : Hid (∀ x ∈ m, InR x.imm) := Lib.hid (fun x hx => hf x (by rw [← hm.out] at hx; exact List.mem_of_mem_take hx))
  rw [← hml.out] at hSh
  have hPr := fun (W : World) (h : Below w.heap.size w W) => print_prog V a m.length m hfm.out W (hPm.out.kept h) (V.kept A h)
  have hRp := fun (W : World) (h : Below w.heap.size w W) => rprint_prog V D a m.length m hfm.out W (hPm.out.kept h) (V.kept A h)
  obtain ⟨ln, hln⟩ : ∃ n, Hid (l.length = n) := ⟨_, rfl⟩
  rw [hln.out] at hSh hlc ⊢
  obtain ⟨R, hR⟩ : ∃ R, Hid (printA V.fp m = R) := ⟨_, rfl⟩
  rw [hR.out] at hPr hRp
  obtain ⟨T, E, Q⟩ := R
  obtain ⟨S, hS⟩ : ∃ S : ByteArray, Hid (S = ⟨T.toArray⟩) := ⟨_, rfl⟩
  simp only at hPr hRp
  rw [← hS.out] at hPr hRp
  have dd : (S.toList == S.toList) = true := by simp
  have dE : (E == E) = true := by simp
  have dQ : (Q == Q) = true := by simp
  generalize hmn : m.length = mn at *
  clear hP hf hm hml hR hS hmn
  go_enter Tryz.func4, Tryz.ntmps4
  go_wp2_with fail
  refine hAw.mono ?_
  rintro e w1 ⟨rfl, b1⟩
  clear hAw
  go_wp2_with fail
  refine (hSh _).mono ?_
  rintro e w1' ⟨rfl, rfl⟩
  go_wp2_with fail
  refine (hPr _ b1).mono ?_
  rintro e w2 ⟨rfl, b2⟩
  have B2 := b1.trans (b2.mono b1.size)
  clear hPr b2
  go_wp2_with fail
  refine (hRp _ B2).mono ?_
  rintro e w3 ⟨rfl, b3⟩
  have B3 := B2.trans (b3.mono B2.size)
  clear hRp b3
  go_wp2_with fail
  go_ret
  exact ⟨rfl, B3⟩
end Go.Proofs.YtalaajniammggaaGreatDoor
