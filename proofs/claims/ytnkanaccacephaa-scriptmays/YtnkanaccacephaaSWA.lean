/- The document's Encode. -/
import Derived.Test.YtnkanaccacephaaSW9
namespace Go.Proofs.Ytnkanaccacephaa
open Go.RowKit

set_option maxRecDepth 100000 in
set_option maxHeartbeats 4000000 in
theorem rencode_any (a : Option Addr) (cap : Nat) (l : List Stp) (w : World) (hP : Rd w a (sCells l)) (hcap : l.length ≤ 9223372036854775807) :
    Calls Try.prog 12 #[.slice a l.length cap] w (EncOut w l) := by
  have hmay := rmay_any a cap l w hP hcap
  by_cases hm : (mayS l).1 = 0
  · have hz := mayS_zero hm
    rw [hz] at hmay
    have hlen := ((mayS_iff l).1 hm).1
    have HFa := hd ((mayS_iff l).1 hm).2
    have HM := hd hm
    have HP := hd hP
    have HE : Hid (∀ (W : World) (a' : Option Addr) (m c' : Nat), Gr w W a' m c' (eP l l.length) → EncOut w l (.returned (.tuple #[.slice a' m c', .int .i64 0, .int .i64 0])) W) := hd (fun W a' m c' hg => enc_out_ok hm (hg.cast rfl (eP_all l)))
    have HL : Hid (∀ i, (eP l i).length ≤ 13319) := hd (eP_len l hm)
    have HW : Hid (∀ (W : World), Below w.heap.size w W → Calls Try.prog 22 #[.slice (some ⟨W.heap.size, 0, none⟩) 5 5, .int .u64 (l.length : Int), .int .i64 2] (W.alloc (.cells #[.int .u8 70, .int .u8 66, .int .u8 83, .int .u8 67, .int .u8 1] 5)) fun e W' => ∃ a' c', e = .returned (.slice a' 7 c') ∧ Gr w W' a' 7 c' (eP l 0)) := hd (fun W hb => (dnumber_any (Gr.start hb) (by omega) l.length 2 (by omega)).mono fun _ _ ⟨a', c', h1, h2, _⟩ => ⟨a', c', h1, h2.cast rfl (by unfold eP; rw [List.take_zero, List.flatMap_nil, List.append_nil])⟩)
    clear hz hm hP
    go_enter Try.func12, Try.ntmps12
    go_upto_region 4 with (go_at_call 10; refine hmay.mono ?_; rintro e w1 ⟨rfl, b1⟩)
    have hw0 := HW.out w1 b1
    clear hmay HW b1
    go_upto_region 6 with (go_at_call 22; refine hw0.mono ?_; rintro e w2 ⟨a2, c2, rfl, g2⟩; replace g2 := hd g2)
    clear hw0
    go_wp2_with fail
    go_loopg [7, 8, 24, 25, 26, 27, 28, 29, 30, 31, 32, 33, 34, 35, 36, 37, 38, 39, 40, 41, 42, 43, 44, 45, 46, 47, 48, 49, 50, 51, 52, 53, 54, 55, 56, 57, 58, 59, 60] l.length (fun g v7 v8 v24 v25 v26 v27 v28 v29 v30 v31 v32 v33 v34 v35 v36 v37 v38 v39 v40 v41 v42 v43 v44 v45 v46 v47 v48 v49 v50 v51 v52 v53 v54 v55 v56 v57 v58 v59 v60 wr => ∃ (i : Nat) (a1 : Option Addr) (m c1 : Nat), i + g = l.length ∧ v8 = .int .i64 (i : Int) ∧ v7 = .slice a1 m c1 ∧ Hid (Gr w wr a1 m c1 (eP l i)))
    case atStart => exact ⟨0, a2, 7, c2, by omega, by go_num, rfl, g2⟩
    case round =>
      obtain ⟨i, a1, m, c1, hi, rfl, rfl, hg⟩ := hrel
      clear g2
      by_cases hg0 : gk = 0
      · subst hg0
        obtain rfl : i = l.length := by omega
        have hd0 : decide ((l.length : Int) < (l.length : Int)) = false := by simp
        have HZ := hd (HE.out wr a1 m c1 hg.out)
        clear HE hg
        go_wp2_with fail
        go_ret3
        exact HZ.out
      · have hlt : i < l.length := by omega
        have hlt' : (i : Int) < (l.length : Int) := by omega
        have hm1 := hg.out.len
        have hm2 := HL.out i
        have hst := eP_step l i hlt
        have hfa := HFa.out (l.getD i default) (by rw [List.getD_eq_getElem?_getD, List.getElem?_eq_getElem hlt]; exact List.getElem_mem hlt)
        obtain ⟨b, off, rfl, k0, k1, k2⟩ := step_at (HP.out.below hg.out.bel) i hlt
        have hkb : 1 ≤ (l.getD i default).k ∧ (l.getD i default).k ≤ 3 ∧ 0 ≤ (l.getD i default).n ∧ (l.getD i default).n ≤ 4294967295 := by
          unfold faultS at hfa
          split at hfa
          · cases hfa
          · split at hfa
            · cases hfa
            · omega
        have hst' := hd hst
        unfold stB tailB at hst
        clear hfa
        have HN : Hid (∀ (W' : World) (a' : Option Addr) (m' c' : Nat), Gr w W' a' m' c' (eP l i ++ (numB 1 (u64 (l.getD i default).k) ++ (numB 4 (u64 (l.getD i default).n) ++ tailB (l.getD i default)))) → Gr w W' a' m' c' (eP l (i + 1))) := hd (fun W' a' m' c' h => h.cast rfl hst'.out.symm)
        unfold tailB at HN
        clear hst hst'
        generalize eP l i = E at *
        have HC2 : Hid (∀ W (a' : Option Addr) (m' c' : Nat) (E1 : List Nat), Gr w W a' m' c' E1 → W.cell? ⟨b, off + i * 3, none⟩ = some (.int .i64 (l.getD i default).k) ∧ W.cell? ⟨b, off + i * 3 + 1, none⟩ = some (.int .i64 (l.getD i default).n) ∧ W.cell? ⟨b, off + i * 3 + 2, none⟩ = some (.int .i64 (l.getD i default).v)) := hd (fun W a' m' c' E1 hW => by
          obtain ⟨b', o', e, q0, q1, q2⟩ := step_at (HP.out.below hW.bel) i hlt
          cases e
          exact ⟨q0, q1, q2⟩)
        generalize (l.getD i default).k = x at *
        generalize (l.getD i default).n = y at *
        generalize (l.getD i default).v = z at *
        obtain ⟨xn, rfl⟩ : ∃ xn : Nat, x = (xn : Int) := ⟨x.toNat, by omega⟩
        obtain ⟨yn, rfl⟩ : ∃ yn : Nat, y = (yn : Int) := ⟨y.toNat, by omega⟩
        have ux : u64 (xn : Int) = xn := u64_nat xn (by omega)
        have uy : u64 (yn : Int) = yn := u64_nat yn (by omega)
        rw [ux, uy, numB_one, Nat.mod_eq_of_lt (show xn < 256 by omega)] at HN
        obtain ⟨a4, c4, w4, hap, g4, -⟩ := hg.out.push (by omega) xn
        have e8 : (xn : Int) % 256 = (xn : Int) := by omega
        have HW := hd (fun (W : World) (a1 : Option Addr) (m c1 : Nat) (E : List Nat) (hm : m ≤ 900000000) (hw : Gr w W a1 m c1 E) => dnumber_any hw hm)
        replace hap := hd hap
        have hwb := HW.out w4 a4 (m + 1) c4 _ (by omega) g4 yn 4 (by omega)
        obtain ⟨p0, p1, p2⟩ := HC2.out w4 _ _ _ _ g4
        clear hg g4
        have hix : i < l.length := hlt
        go_upto_region 10 with (at_builtin; refine wpList_append_run rfl _ _ _ rfl _ _ _ _ rfl rfl hap.out ?_; clear hap)
        clear k0 k1 k2
        go_upto_region 11 with (go_at_call 22; refine hwb.mono ?_; rintro e w5 ⟨a5, c5, rfl, g5, -⟩)
        clear hwb p0 p1 p2
        obtain ⟨p0, p1, p2⟩ := HC2.out w5 _ _ _ _ g5
        by_cases h2 : xn = 2
        · have hwc := HW.out w5 a5 (m + 1 + 4) c5 _ (by omega) g5 (u64 z) 8 (by omega)
          rw [if_pos (by omega)] at HN
          have ez := mod_u64 z
          have ez' : IntKind.u64.wrap z = (u64 z : Int) := by rw [wrap_u64, ez]
          have hd2 : ((xn : Int) == 2) = true := by simp; omega
          clear HW HC2
          replace g5 := hd g5
          replace h2 := hd h2
          go_wp2_with (go_at_call 22; refine hwc.mono ?_; rintro e w6 ⟨a6, c6, rfl, g6, -⟩; replace g6 := hd g6)
          go_roundg (gk - 1)
          case rel => exact ⟨i + 1, a6, m + 1 + 4 + 8, c6, by omega, by go_num, rfl, hd (HN.out w6 a6 _ c6 (g6.out.cast rfl (by simp only [List.append_assoc])))⟩
          case measure => omega
        · have hd2 : ((xn : Int) == 2) = false := by simp; omega
          rw [if_neg (by omega)] at HN
          clear HW HC2
          replace g5 := hd g5
          replace h2 := hd h2
          go_wp2_with fail
          go_roundg (gk - 1)
          case rel => exact ⟨i + 1, a5, m + 1 + 4, c5, by omega, by go_num, rfl, hd (HN.out w5 a5 _ c5 (g5.out.cast rfl (by simp only [List.append_assoc, List.append_nil])))⟩
          case measure => omega
  · have hm' : ((mayS l).1 == 0) = false := by simpa using hm
    have HE : Hid (∀ w', Below w.heap.size w w' → _) := hd (fun w' hb => enc_out_no (w := w) (w' := w') hm hb)
    generalize (mayS l).1 = E at *
    generalize (mayS l).2 = D at *
    clear hm
    go_enter Try.func12, Try.ntmps12
    go_wp2_with (go_at_call 10; refine hmay.mono ?_; rintro e w1 ⟨rfl, b1⟩)
    go_ret3
    exact HE.out w1 b1
end Go.Proofs.Ytnkanaccacephaa
