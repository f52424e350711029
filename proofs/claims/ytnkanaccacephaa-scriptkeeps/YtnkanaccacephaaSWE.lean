/- The walk of ScriptReturns. -/
import Derived.Test.YtnkanaccacephaaSWD
namespace Go.Proofs.Ytnkanaccacephaa
open Go.RowKit


theorem rem_at (z : Int) {n : Nat} (hn : 0 < n) : ∃ k : Nat, k < n ∧ ((0 ≤ z.tmod n ∧ z.tmod n = (k : Int)) ∨ (z.tmod n < 0 ∧ z.tmod n + n = (k : Int))) := by
  have h1 : z.tmod n < (n : Int) := Int.tmod_lt_of_pos z (by omega)
  have h2 : -(n : Int) < z.tmod n := by
    have := Int.lt_tmod_of_pos z (b := (n : Int)) (by omega)
    omega
  by_cases h : 0 ≤ z.tmod n
  · exact ⟨(z.tmod n).toNat, by omega, .inl ⟨h, by omega⟩⟩
  · exact ⟨(z.tmod n + n).toNat, by omega, .inr ⟨by omega, by omega⟩⟩
theorem byte_take {l : List Nat} (h : Byte l) (k : Nat) : Byte (l.take k) := byte_of_mem fun y hy => mem_of_byte h y (List.mem_of_mem_take hy)
theorem byte_app {l m : List Nat} (h : Byte l) (k : Byte m) : Byte (l ++ m) := byte_of_mem fun y hy => by
  rcases List.mem_append.1 hy with h1 | h1
  · exact mem_of_byte h y h1
  · exact mem_of_byte k y h1

set_option maxRecDepth 100000 in
set_option maxHeartbeats 4000000 in
theorem scriptReturns_any (a : Option Addr) (cap : Nat) (l : List Stp) (b : Option Addr) (bcap : Nat) (bs : List Nat) (cut : Int) (w : World) (hP : Rd w a (sCells l)) (hlen : l.length ≤ 9223372036854775807) (hfit : ∀ s ∈ l, FitS s) (hR : Rd w b (bCells bs)) (hb : Byte bs) (hcap : bs.length ≤ bcap) (hnone : b = none → bcap = 0) :
    Calls Try.prog 6 #[.slice a l.length cap, .slice b bs.length bcap, .int .i64 cut] w fun e w' => e = .returned (.bool true) ∧ Below w.heap.size w w' := by
  have h0 := awake_any w
  have HP := hd hP
  have HR := hd hR
  have HBy := hd hb
  have HM : Hid (∀ W, Below w.heap.size w W → _) := hd (fun W hW => may_any a cap l W (HP.out.below hW) (by omega))
  have HE : Hid (∀ W, Below w.heap.size w W → _) := hd (fun W hW => encode_any a cap l W (HP.out.below hW) (by omega))
  have HD : Hid (∀ W, Below w.heap.size w W → _) := hd (fun W hW => decode_any b bcap bs W (HR.out.below hW) hb hcap)
  clear hP hR hb
  by_cases hm : (mayS l).1 = 0
  · have hz := mayS_zero hm
    have hok : okS l := ⟨hm, hfit⟩
    have hF : encF l = encS l := by unfold encF; rw [if_pos hm]
    have hl1024 := ((mayS_iff l).1 hm).1
    have hL7 := enc_pos l
    have hL13 := enc_len hm
    have HDE : Hid (decF (encS l) = (l, 0, 0)) := hd (decF_ok (dec_enc hok))
    have HDC : Hid (∀ k, k < (encS l).length → decF ((encS l).take k) = ([], 5, (k : Int))) := hd (fun k hk => decF_er (dec_cut hok k hk))
    have HDR : Hid (decF (encS l ++ [1]) = ([], 6, ((encS l).length : Int))) := hd (decF_er (dec_rest hok 1))
    have hbE := hd (enc_byte l)
    clear hfit hm hok
    go_enter Try.func6, Try.ntmps6
    go_upto_region 3 with (go_at_call 8; refine h0.mono ?_; rintro e w1 ⟨rfl, b1⟩)
    have h1 := HE.out w1 b1
    unfold EncOut at h1
    rw [hz, hF] at h1
    clear h0
    generalize encS l = xs at *
    go_upto_region 4 with (go_at_call 11; refine h1.mono ?_; rintro e w2 ⟨ea, ec, rfl, er, en, b2⟩; replace en := hd (fun k hk => Nat.le_trans b1.size (en k hk)); replace b2 := b1.trans (b2.mono b1.size))
    have h2 := HM.out w2 b2
    rw [hz] at h2
    replace er := hd er
    clear h1 b1 HE HM
    go_upto_region 5 with (go_at_call 9; refine h2.mono ?_; rintro e w3 ⟨rfl, b3⟩; replace er := hd (er.out.below b3); replace b3 := b2.trans (b3.mono b2.size))
    clear h2 b2
    obtain ⟨eb, rfl⟩ := er.out.head (by omega)
    have hec := er.out.capLe
    have h3 := decode_any (some ⟨eb, 0, none⟩) ec xs w3 er.out.rd hbE.out hec
    unfold DecOut at h3
    rw [HDE.out] at h3
    clear HDE
    go_upto_region 9 with (go_at_call 13; refine h3.mono ?_; rintro e w4 ⟨ma, mc, rfl, mr, -, b4⟩; replace er := hd (er.out.below b4); replace b4 := b3.trans (b4.mono b3.size))
    clear h3 b3
    have hs := same_yes ma a mc cap l w4 (by omega) mr.rd (HP.out.below b4)
    clear mr
    replace b4 := hd b4
    go_upto_region 11 with (go_at_call 15; refine hs.mono ?_; rintro e w5 ⟨rfl, hw5⟩; replace hw5 := hd hw5)
    have b45 : Hid (Below w4.heap.size w4 w5) := hd (by
      obtain ⟨n, rfl⟩ := hw5.out
      exact below_draw w4 n)
    have B5 := hd (b4.out.trans (b45.out.mono b4.out.size))
    replace er := hd (er.out.below b45.out)
    clear hs b45 b4 hw5
    have hl0 : 0 < xs.length := by omega
    obtain ⟨k, hk, hcase⟩ := rem_at cut hl0
    have hL0 : ((xs.length : Int) == 0) = false := by rw [beq_eq_false_iff_ne]; omega
    obtain ⟨z, hz⟩ : ∃ z, cut.tmod (xs.length : Int) = z := ⟨_, rfl⟩
    rw [hz] at hcase
    go_upto_if 76 with fail
    go_cut [15] (fun v15 wy => v15 = .int .i64 (k : Int) ∧ wy = w5)
    case first =>
      rcases hcase with ⟨h1, h2⟩ | ⟨h1, h2⟩
      · have d1 : decide (z < 0) = false := by simp; omega
        go_wp2_with fail
        go_meet
        exact ⟨by rw [h2], rfl⟩
      · have d1 : z < 0 := h1
        go_wp2_with fail
        go_meet
        exact ⟨rfl, rfl⟩
    case rest =>
    obtain ⟨rfl, hwc⟩ := hcut
    obtain rfl : w5 = wc := hwc.symm
    clear hcase hz hL0
    have h6 : Calls Try.prog 13 #[.slice (some ⟨eb, 0, none⟩) k k] w5 fun e w' => ∃ (a1 : Option Addr) (c1 : Nat), e = .returned (.tuple #[.slice a1 0 c1, .int .i64 5, .int .i64 (k : Int)]) ∧ Below w5.heap.size w5 w' := by
      have h := decode_any (some ⟨eb, 0, none⟩) k (xs.take k) w5 (rd_take er.out.rd k) (byte_take hbE.out k) (by rw [List.length_take]; omega)
      unfold DecOut at h
      rw [HDC.out k hk, show (xs.take k).length = k by rw [List.length_take]; omega] at h
      exact h.mono fun e w' ⟨a1, c1, he, _, _, hb⟩ => ⟨a1, c1, he, hb⟩
    have hkI : (k : Int) ≤ (ec : Int) := by omega
    have hkL : (k : Int) < (xs.length : Int) := by omega
    go_upto_region 15 with (go_at_call 13; refine h6.mono ?_; rintro e w6 ⟨ka, kc, rfl, b6⟩; replace b6 := hd b6)
    have B6 := hd (B5.out.trans (b6.out.mono B5.out.size))
    have hrw : Row w6 5 1 (some ⟨eb, 0, none⟩) xs.length xs.length (bCells xs) := by
      have h1 := (er.out.below b6.out).cut xs.length xs.length (Nat.le_refl _) (Nat.le_refl _) hec (fun e => by cases e)
      rw [List.take_of_length_le (by rw [bCells_len]; omega)] at h1
      exact h1
    obtain ⟨pa, pc, w7, hap, pr, pm, -⟩ := push_any Try.underlying27 info_u8 rfl (by omega) hrw (by omega) [.int .u8 ((1 : Nat) : Int)] rfl (bCells_one [1])
    have pr' : Row w7 5 1 pa (xs.length + 1) pc (bCells (xs ++ [1])) := by
      rw [← bCells_app]
      exact pr
    have B7 : Hid (Below w.heap.size w w7) := hd (B6.out.trans (pm.below (B := w.heap.size) B6.out.size (fun x _ hx => en.out x hx)))
    have h8 : Calls Try.prog 13 #[.slice pa (xs.length + 1) pc] w7 fun e w' => ∃ (a1 : Option Addr) (c1 : Nat), e = .returned (.tuple #[.slice a1 0 c1, .int .i64 6, .int .i64 (xs.length : Int)]) ∧ Below w7.heap.size w7 w' := by
      have h := decode_any pa pc (xs ++ [1]) w7 pr'.rd (byte_app hbE.out (byte_of_mem (by decide))) (by rw [List.length_append]; exact pr'.capLe)
      unfold DecOut at h
      rw [HDR.out, List.length_append] at h
      exact h.mono fun e w' ⟨a1, c1, he, _, _, hb⟩ => ⟨a1, c1, he, hb⟩
    have hap' : Hid (∀ ty, (Builtin.append_ #[27, 27] ty #[.slice (some ⟨eb, 0, none⟩) xs.length xs.length, .slice (some ⟨w6.heap.size, 0, none⟩) 1 1]).run Try.prog (w6.alloc (.cells #[.int .u8 1] 5)) = .ok (.slice pa (xs.length + 1) pc) w7) := hd hap
    have hLe : (xs.length : Int) ≤ (ec : Int) := by omega
    clear h6 hkI HDC HDR hrw pr pr' pm hap er B6 B5 b6
    go_upto_region 16 with (first | (at_builtin; refine wpList_append_run rfl _ _ _ rfl _ _ _ _ rfl rfl hap'.out ?_; clear hap') | (go_at_call 13; refine h8.mono ?_; rintro e w8 ⟨qa, qc, rfl, b8⟩))
    have B8 := hd (B7.out.trans (b8.mono B7.out.size))
    clear h8 b8 hLe B7
    go_upto_region 20 with fail
    rcases decF_cases HBy.out with ⟨m, hD, hmok, hme, hbl⟩ | ⟨E1, P1, hD, hE1, hP0, hP1⟩
    · have hd2 := HD.out w8 B8.out
      unfold DecOut at hd2
      rw [hD] at hd2
      have hmz := mayS_zero hmok.1
      have hml := ((mayS_iff m).1 hmok.1).1
      have hmF : encF m = bs := by
        unfold encF
        rw [if_pos hmok.1, hme]
      go_upto_region 21 with (go_at_call 13; refine hd2.mono ?_; rintro e x1 ⟨ma, mc, rfl, mr, -, xb1⟩)
      have X1 := B8.out.trans (xb1.mono B8.out.size)
      have hen := encode_any ma mc m x1 mr.rd (by omega)
      unfold EncOut at hen
      rw [hmz, hmF] at hen
      replace mr := hd mr
      clear hd2 xb1
      go_upto_region 24 with (go_at_call 11; refine hen.mono ?_; rintro e x2 ⟨da, dc, rfl, dr, -, xb2⟩)
      have X2 := X1.trans (xb2.mono X1.size)
      have hmy := may_any ma mc m x2 (mr.out.below xb2).rd (by omega)
      rw [hmz] at hmy
      replace dr := hd dr
      clear hen xb2 X1 mr
      go_upto_region 25 with (go_at_call 9; refine hmy.mono ?_; rintro e x3 ⟨rfl, xb3⟩)
      have X3 := X2.trans (xb3.mono X2.size)
      have s1 := string_rd (w := x3) (dr.out.below xb3).rd HBy.out (row_zero (dr.out.below xb3))
      have s2 := string_rd (w := x3) (HR.out.below X3) HBy.out hnone
      replace X3 := hd X3
      clear hmy xb3 X2 dr hD hmok hme hmF hmz
      generalize toU bs = TB at s1 s2
      go_wp2_with fail
      go_ret
      exact ⟨rfl, X3.out⟩
    · have hd2 := HD.out w8 B8.out
      unfold DecOut at hd2
      rw [hD] at hd2
      have dE : (E1 == 0) = false := by simpa using hE1
      have dE' : (E1 != 0) = true := by simpa using hE1
      clear hD hE1
      go_upto_region 21 with (go_at_call 13; refine hd2.mono ?_; rintro e x1 ⟨ma, mc, rfl, mr, -, xb1⟩)
      have X1 := hd (B8.out.trans (xb1.mono B8.out.size))
      clear hd2 xb1 mr
      go_wp2_with fail
      go_ret
      exact ⟨rfl, X1.out⟩
  · have hm' : ((mayS l).1 == 0) = false := by simpa using hm
    have hF : encF l = [] := by unfold encF; rw [if_neg hm]
    clear hfit hm
    go_enter Try.func6, Try.ntmps6
    go_upto_region 3 with (go_at_call 8; refine h0.mono ?_; rintro e w1 ⟨rfl, b1⟩)
    have h1 := HE.out w1 b1
    unfold EncOut at h1
    rw [hF] at h1
    clear h0
    generalize (mayS l).1 = E at *
    generalize (mayS l).2 = D at *
    go_upto_region 4 with (go_at_call 11; refine h1.mono ?_; rintro e w2 ⟨ea, ec, rfl, -, -, b2⟩; replace b2 := b1.trans (b2.mono b1.size))
    have h2 := HM.out w2 b2
    clear h1 b1 HE HM
    go_upto_region 5 with (go_at_call 9; refine h2.mono ?_; rintro e w3 ⟨rfl, b3⟩; replace b3 := b2.trans (b3.mono b2.size))
    clear h2 b2
    replace b3 := hd b3
    go_upto_region 20 with fail
    rcases decF_cases HBy.out with ⟨m, hD, hmok, hme, hbl⟩ | ⟨E1, P1, hD, hE1, hP0, hP1⟩
    · have hd2 := HD.out w3 b3.out
      unfold DecOut at hd2
      rw [hD] at hd2
      have hmz := mayS_zero hmok.1
      have hml := ((mayS_iff m).1 hmok.1).1
      have hmF : encF m = bs := by
        unfold encF
        rw [if_pos hmok.1, hme]
      go_upto_region 21 with (go_at_call 13; refine hd2.mono ?_; rintro e x1 ⟨ma, mc, rfl, mr, -, xb1⟩)
      have X1 := b3.out.trans (xb1.mono b3.out.size)
      have hen := encode_any ma mc m x1 mr.rd (by omega)
      unfold EncOut at hen
      rw [hmz, hmF] at hen
      replace mr := hd mr
      clear hd2 xb1
      go_upto_region 24 with (go_at_call 11; refine hen.mono ?_; rintro e x2 ⟨da, dc, rfl, dr, -, xb2⟩)
      have X2 := X1.trans (xb2.mono X1.size)
      have hmy := may_any ma mc m x2 (mr.out.below xb2).rd (by omega)
      rw [hmz] at hmy
      replace dr := hd dr
      clear hen xb2 X1 mr
      go_upto_region 25 with (go_at_call 9; refine hmy.mono ?_; rintro e x3 ⟨rfl, xb3⟩)
      have X3 := X2.trans (xb3.mono X2.size)
      have s1 := string_rd (w := x3) (dr.out.below xb3).rd HBy.out (row_zero (dr.out.below xb3))
      have s2 := string_rd (w := x3) (HR.out.below X3) HBy.out hnone
      replace X3 := hd X3
      clear hmy xb3 X2 dr hD hmok hme hmF hmz
      generalize toU bs = TB at s1 s2
      go_wp2_with fail
      go_ret
      exact ⟨rfl, X3.out⟩
    · have hd2 := HD.out w3 b3.out
      unfold DecOut at hd2
      rw [hD] at hd2
      have dE : (E1 == 0) = false := by simpa using hE1
      have dE' : (E1 != 0) = true := by simpa using hE1
      clear hD hE1
      go_upto_region 21 with (go_at_call 13; refine hd2.mono ?_; rintro e x1 ⟨ma, mc, rfl, mr, -, xb1⟩)
      have X1 := hd (b3.out.trans (xb1.mono b3.out.size))
      clear hd2 xb1 mr
      go_wp2_with fail
      go_ret
      exact ⟨rfl, X1.out⟩
end Go.Proofs.Ytnkanaccacephaa
