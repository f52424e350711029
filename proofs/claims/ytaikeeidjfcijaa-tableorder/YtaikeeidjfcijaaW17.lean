/- TableOrder. -/
import Derived.Test.YtaikeeidjfcijaaW15
import Derived.Test.YtaikeeidjfcijaaW16
import Derived.Deep.RegionWith
import Derived.Deep.Cut
import Derived.Deep.CutRange
namespace Go.Proofs.Ytaikeeidjfcijaa
open Go.RowKit Go.Maps

theorem in_of_mem {l : List Nat} {x : Nat} (h : x ∈ l) : ∃ t, t < l.length ∧ l.getD t 0 = x := mem_getD h
theorem rising_flows {d : List Nat} (hp : d.Pairwise (· < ·)) {i j : Nat} (hi : i < d.length) (hj : j < d.length) (h : tflows d (i : Nat) (j : Nat) = true) : i ≤ j := by
  rw [tflows_yes hi hj] at h
  have h1 := flows_le h
  rcases Nat.lt_or_ge j i with hji | hji
  · have := rising_get hp hji hi; omega
  · exact hji
theorem flows_ii {d : List Nat} {i : Nat} (hi : i < d.length) : tflows d (i : Nat) (i : Nat) = true := by rw [tflows_yes hi hi]; exact flows_self _
theorem up_has {d : List Nat} {i j : Nat} (hj : j < d.length) : decide (j ∈ upTo d (i : Nat) d.length) = tflows d (i : Nat) (j : Nat) := by
  rw [Bool.eq_iff_iff, decide_eq_true_eq, upTo_mem]
  exact ⟨fun h => h.2, fun h => ⟨hj, h⟩⟩
theorem down_has {d : List Nat} {i j : Nat} (hi : i < d.length) (hj : j < d.length) : decide (j ∈ downTo d (d.getD i 0) d.length) = tflows d (j : Nat) (i : Nat) := by
  rw [Bool.eq_iff_iff, decide_eq_true_eq, downTo_mem, tflows_yes hj hi]
  exact ⟨fun h => h.2, fun h => ⟨hj, h⟩⟩
theorem flows_tr {d : List Nat} {i j k : Nat} (hi : i < d.length) (hj : j < d.length) (hk : k < d.length) (h1 : tflows d (i : Nat) (j : Nat) = true) (h2 : tflows d (j : Nat) (k : Nat) = true) : tflows d (i : Nat) (k : Nat) = true := by
  rw [tflows_yes hi hj] at h1
  rw [tflows_yes hj hk] at h2
  rw [tflows_yes hi hk]
  exact flows_trans h1 h2

set_option maxRecDepth 100000 in
set_option maxHeartbeats 32000000 in
theorem tableOrder_walk (a : Option Addr) (cap : Nat) (l : List Nat) (w : World) (hC : Cells w a (labCells l)) (hcp : l.length ≤ cap) (hlw : ∀ i, l.getD i 0 < 18446744073709551616) :
    Calls Try.prog 6 #[.slice a l.length cap] w fun e w' => e = .returned (.bool true) ∧ Go.RowKit.Below w.heap.size w w' := by
  obtain ⟨f, hf, hfl⟩ := take_lab l 300
  have hCf : Cells w a (labCells f) := by rw [hf]; exact cells_take_lab hC 300
  have hfw : ∀ i, f.getD i 0 < 18446744073709551616 := by rw [hf]; exact getD_take_lt hlw 300
  have e2 := cut300 l.length
  rw [← hfl] at e2
  have b3 : f.length ≤ l.length := by omega
  have b4 : f.length ≤ 300 := by omega
  clear hf hfl hC hlw
  generalize l.length = nl at *
  go_enter Try.func6, Try.ntmps6
  go_wp2_with fail
  refine (awake_any _).mono ?_
  rintro e w1 ⟨rfl, B1⟩
  go_wp2_with fail
  refine (canon_any a f.length f w1 (hCf.kept B1) (by omega)).mono ?_
  rintro e w2 ⟨v, c, hcan, rfl, ho2, hb2⟩
  have B2 := below_step B1 hb2
  obtain ⟨ac, cc, rfl, hCc, hcc, _⟩ := cells_of_owns ho2
  have hcl := rising_len f c hcan.1 (fun x hx => (hcan.2 x).1 hx)
  have hCf2 := hCf.kept B2
  have HCAN : Hid (IsCanon f c) := hcan
  clear hcan ho2 hb2 hCf B1 e2
  go_wp2
  go_loop [36] (fun vi => ∃ i : Nat, i ≤ c.length ∧ vi = .int .i64 i) (fun vi => c.length - (intOf vi).toNat)
  case atStart => exact ⟨0, Nat.zero_le _, rfl⟩
  case round =>
    obtain ⟨i, hic, rfl⟩ := hrel
    by_cases hlt : i < c.length
    · obtain ⟨bc, oc, hac, hcell⟩ := hCc (lab_ne c i hlt)
      have hx : w2.cell? ⟨bc, oc + i, none⟩ = some (.int .u64 (c.getD i 0 : Nat)) := hcell i _ (lab_at c i hlt)
      have hlt' : (i : Int) < (c.length : Int) := by omega
      have hmem : Hid (∃ t, t < f.length ∧ f.getD t 0 = c.getD i 0) := in_of_mem ((HCAN.out.2 _).1 (by
        simp only [List.getD_eq_getElem?_getD, List.getElem?_eq_getElem hlt, Option.getD_some]; exact List.getElem_mem hlt))
      subst hac
      by_cases hi0 : 0 < i
      · have hy : w2.cell? ⟨bc, oc + (i - 1), none⟩ = some (.int .u64 (c.getD (i - 1) 0 : Nat)) := hcell (i - 1) _ (lab_at c (i - 1) (by omega))
        have hr := rising_get HCAN.out.1 (show i - 1 < i by omega) hlt
        have hi1 : (1 : Int) ≤ (i : Int) := by omega
        clear hcell
        generalize c.getD (i - 1) 0 = y at *
        generalize c.getD i 0 = x at *
        have t1 : decide ((x : Int) ≤ (y : Int)) = false := decide_eq_false (by omega)
        have t1' : (y : Int) < (x : Int) := by omega
        go_wp2
        go_loop [6, 54] (fun vb vj => ∃ (j : Nat) (b : Bool), j ≤ f.length ∧ vj = .int .i64 j ∧ vb = .bool b ∧ Hid (b = true ↔ ∃ t, t < j ∧ f.getD t 0 = x)) (fun _ vj => f.length - (intOf vj).toNat)
        case atStart => exact ⟨0, false, Nat.zero_le _, rfl, rfl, by constructor; (intro h; cases h); rintro ⟨t, ht, _⟩; omega⟩
        case round =>
          obtain ⟨j, b, hj, rfl, rfl, hb⟩ := hrel
          by_cases hjl : j < f.length
          · have hjl' : (j : Int) < (f.length : Int) := by omega
            obtain ⟨bf, of', hacf, hcellf⟩ := hCf2 (lab_ne f j hjl)
            have hz : w2.cell? ⟨bf, of' + j, none⟩ = some (.int .u64 (f.getD j 0 : Nat)) := hcellf j _ (lab_at f j hjl)
            subst hacf
            clear hcellf
            cases b with
            | true =>
              have hb2 : Hid (true = true ↔ ∃ t, t < j + 1 ∧ f.getD t 0 = x) := ⟨fun _ => by obtain ⟨t, ht, e⟩ := hb.out.1 rfl; exact ⟨t, by omega, e⟩, fun _ => rfl⟩
              generalize f.getD j 0 = z at hz
              go_wp2
              go_round
              case rel => exact ⟨j + 1, true, by omega, by go_num, rfl, hb2⟩
              case measure => simp [intOf]; omega
            | false =>
              have hno : ¬ ∃ t, t < j ∧ f.getD t 0 = x := fun h => by have := hb.out.2 h; cases this
              by_cases hez : f.getD j 0 = x
              · have hb2 : Hid (true = true ↔ ∃ t, t < j + 1 ∧ f.getD t 0 = x) := ⟨fun _ => ⟨j, by omega, hez⟩, fun _ => rfl⟩
                generalize f.getD j 0 = z at hz hez
                have t2 : ((x : Int) == (z : Int)) = true := by rw [beq_iff_eq]; omega
                clear hez hno hb
                go_wp2
                go_round
                case rel => exact ⟨j + 1, true, by omega, by go_num, rfl, hb2⟩
                case measure => simp [intOf]; omega
              · have hb2 : Hid (false = true ↔ ∃ t, t < j + 1 ∧ f.getD t 0 = x) := ⟨(fun h => by cases h), (fun ⟨t, ht, e⟩ => by
                  by_cases htj : t = j
                  · subst htj; exact absurd e hez
                  · exact absurd ⟨t, by omega, e⟩ hno)⟩
                generalize f.getD j 0 = z at hz hez
                have t2 : ((x : Int) == (z : Int)) = false := by rw [beq_eq_false_iff_ne]; omega
                clear hez hno hb
                go_wp2
                go_round
                case rel => exact ⟨j + 1, false, by omega, by go_num, rfl, hb2⟩
                case measure => simp [intOf]; omega
          · have hjl' : decide ((j : Int) < (f.length : Int)) = false := decide_eq_false (by omega)
            have hjg : (f.length : Int) ≤ (j : Int) := by omega
            have hbt : b = true := hb.out.2 (by obtain ⟨t, ht, e⟩ := hmem.out; exact ⟨t, by omega, e⟩)
            subst hbt
            go_wp2
            go_round
            case rel => exact ⟨i + 1, by omega, by go_num⟩
            case measure => simp [intOf]; omega
      · have hi0' : decide (0 < i) = false := decide_eq_false hi0
        have hi0'' : decide ((0 : Int) < (i : Int)) = false := decide_eq_false (by omega)
        clear hcell hi0
        generalize c.getD i 0 = x at *
        go_wp2
        go_loop [6, 54] (fun vb vj => ∃ (j : Nat) (b : Bool), j ≤ f.length ∧ vj = .int .i64 j ∧ vb = .bool b ∧ Hid (b = true ↔ ∃ t, t < j ∧ f.getD t 0 = x)) (fun _ vj => f.length - (intOf vj).toNat)
        case atStart => exact ⟨0, false, Nat.zero_le _, rfl, rfl, by constructor; (intro h; cases h); rintro ⟨t, ht, _⟩; omega⟩
        case round =>
          obtain ⟨j, b, hj, rfl, rfl, hb⟩ := hrel
          by_cases hjl : j < f.length
          · have hjl' : (j : Int) < (f.length : Int) := by omega
            obtain ⟨bf, of', hacf, hcellf⟩ := hCf2 (lab_ne f j hjl)
            have hz : w2.cell? ⟨bf, of' + j, none⟩ = some (.int .u64 (f.getD j 0 : Nat)) := hcellf j _ (lab_at f j hjl)
            subst hacf
            clear hcellf
            cases b with
            | true =>
              have hb2 : Hid (true = true ↔ ∃ t, t < j + 1 ∧ f.getD t 0 = x) := ⟨fun _ => by obtain ⟨t, ht, e⟩ := hb.out.1 rfl; exact ⟨t, by omega, e⟩, fun _ => rfl⟩
              generalize f.getD j 0 = z at hz
              go_wp2
              go_round
              case rel => exact ⟨j + 1, true, by omega, by go_num, rfl, hb2⟩
              case measure => simp [intOf]; omega
            | false =>
              have hno : ¬ ∃ t, t < j ∧ f.getD t 0 = x := fun h => by have := hb.out.2 h; cases this
              by_cases hez : f.getD j 0 = x
              · have hb2 : Hid (true = true ↔ ∃ t, t < j + 1 ∧ f.getD t 0 = x) := ⟨fun _ => ⟨j, by omega, hez⟩, fun _ => rfl⟩
                generalize f.getD j 0 = z at hz hez
                have t2 : ((x : Int) == (z : Int)) = true := by rw [beq_iff_eq]; omega
                clear hez hno hb
                go_wp2
                go_round
                case rel => exact ⟨j + 1, true, by omega, by go_num, rfl, hb2⟩
                case measure => simp [intOf]; omega
              · have hb2 : Hid (false = true ↔ ∃ t, t < j + 1 ∧ f.getD t 0 = x) := ⟨(fun h => by cases h), (fun ⟨t, ht, e⟩ => by
                  by_cases htj : t = j
                  · subst htj; exact absurd e hez
                  · exact absurd ⟨t, by omega, e⟩ hno)⟩
                generalize f.getD j 0 = z at hz hez
                have t2 : ((x : Int) == (z : Int)) = false := by rw [beq_eq_false_iff_ne]; omega
                clear hez hno hb
                go_wp2
                go_round
                case rel => exact ⟨j + 1, false, by omega, by go_num, rfl, hb2⟩
                case measure => simp [intOf]; omega
          · have hjl' : decide ((j : Int) < (f.length : Int)) = false := decide_eq_false (by omega)
            have hjg : (f.length : Int) ≤ (j : Int) := by omega
            have hbt : b = true := hb.out.2 (by obtain ⟨t, ht, e⟩ := hmem.out; exact ⟨t, by omega, e⟩)
            subst hbt
            go_wp2
            go_round
            case rel => exact ⟨i + 1, by omega, by go_num⟩
            case measure => simp [intOf]; omega
    · have hlt' : decide ((i : Int) < (c.length : Int)) = false := decide_eq_false (by omega)
      have hge : (c.length : Int) ≤ (i : Int) := by omega
      clear hic hlt
      go_wp2
      go_loop [70] (fun vi => ∃ i : Nat, i ≤ f.length ∧ vi = .int .i64 i) (fun vi => f.length - (intOf vi).toNat)
      case atStart => exact ⟨0, Nat.zero_le _, rfl⟩
      case round =>
        clear hlt' hge
        obtain ⟨i2, hif, rfl⟩ := hrel
        by_cases hlt : i2 < f.length
        · obtain ⟨bf, of', hacf, hcellf⟩ := hCf2 (lab_ne f i2 hlt)
          have hx : w2.cell? ⟨bf, of' + i2, none⟩ = some (.int .u64 (f.getD i2 0 : Nat)) := hcellf i2 _ (lab_at f i2 hlt)
          have hlt' : (i2 : Int) < (f.length : Int) := by omega
          have hmem : Hid (∃ t, t < c.length ∧ c.getD t 0 = f.getD i2 0) := in_of_mem ((HCAN.out.2 _).2 (by
            simp only [List.getD_eq_getElem?_getD, List.getElem?_eq_getElem hlt, Option.getD_some]; exact List.getElem_mem hlt))
          subst hacf
          clear hcellf
          generalize f.getD i2 0 = x at *
          go_wp2
          go_loop [11, 76] (fun vb vj => ∃ (j : Nat) (b : Bool), j ≤ c.length ∧ vj = .int .i64 j ∧ vb = .bool b ∧ Hid (b = true ↔ ∃ t, t < j ∧ c.getD t 0 = x)) (fun _ vj => c.length - (intOf vj).toNat)
          case atStart => exact ⟨0, false, Nat.zero_le _, rfl, rfl, by constructor; (intro h; cases h); rintro ⟨t, ht, _⟩; omega⟩
          case round =>
            obtain ⟨j, b, hj, rfl, rfl, hb⟩ := hrel
            by_cases hjl : j < c.length
            · have hjl' : (j : Int) < (c.length : Int) := by omega
              obtain ⟨bc, oc, rfl, hcell⟩ := hCc (lab_ne c j hjl)
              have hz : w2.cell? ⟨bc, oc + j, none⟩ = some (.int .u64 (c.getD j 0 : Nat)) := hcell j _ (lab_at c j hjl)
              clear hcell
              cases b with
              | true =>
                have hb2 : Hid (true = true ↔ ∃ t, t < j + 1 ∧ c.getD t 0 = x) := ⟨fun _ => by obtain ⟨t, ht, e⟩ := hb.out.1 rfl; exact ⟨t, by omega, e⟩, fun _ => rfl⟩
                generalize c.getD j 0 = z at hz
                go_wp2
                go_round
                case rel => exact ⟨j + 1, true, by omega, by go_num, rfl, hb2⟩
                case measure => simp [intOf]; omega
              | false =>
                have hno : ¬ ∃ t, t < j ∧ c.getD t 0 = x := fun h => by have := hb.out.2 h; cases this
                by_cases hez : c.getD j 0 = x
                · have hb2 : Hid (true = true ↔ ∃ t, t < j + 1 ∧ c.getD t 0 = x) := ⟨fun _ => ⟨j, by omega, hez⟩, fun _ => rfl⟩
                  generalize c.getD j 0 = z at hz hez
                  have t2 : ((x : Int) == (z : Int)) = true := by rw [beq_iff_eq]; omega
                  clear hez hno hb
                  go_wp2
                  go_round
                  case rel => exact ⟨j + 1, true, by omega, by go_num, rfl, hb2⟩
                  case measure => simp [intOf]; omega
                · have hb2 : Hid (false = true ↔ ∃ t, t < j + 1 ∧ c.getD t 0 = x) := ⟨(fun h => by cases h), (fun ⟨t, ht, e⟩ => by
                    by_cases htj : t = j
                    · subst htj; exact absurd e hez
                    · exact absurd ⟨t, by omega, e⟩ hno)⟩
                  generalize c.getD j 0 = z at hz hez
                  have t2 : ((x : Int) == (z : Int)) = false := by rw [beq_eq_false_iff_ne]; omega
                  clear hez hno hb
                  go_wp2
                  go_round
                  case rel => exact ⟨j + 1, false, by omega, by go_num, rfl, hb2⟩
                  case measure => simp [intOf]; omega
            · have hjl' : decide ((j : Int) < (c.length : Int)) = false := decide_eq_false (by omega)
              have hjg : (c.length : Int) ≤ (j : Int) := by omega
              have hbt : b = true := hb.out.2 (by obtain ⟨t, ht, e⟩ := hmem.out; exact ⟨t, by omega, e⟩)
              subst hbt
              go_wp2
              go_round
              case rel => exact ⟨i2 + 1, by omega, by go_num⟩
              case measure => simp [intOf]; omega
        · have hlt' : decide ((i2 : Int) < (f.length : Int)) = false := decide_eq_false (by omega)
          have hge : (f.length : Int) ≤ (i2 : Int) := by omega
          clear hif hlt hCf2
          obtain ⟨d, hd, hdl⟩ := take_lab c 8
          have hCd : Cells w2 ac (labCells d) := by rw [hd]; exact cells_take_lab hCc 8
          have hdp : Hid (d.Pairwise (· < ·)) := by show d.Pairwise _; rw [hd]; exact HCAN.out.1.sublist (List.take_sublist _ _)
          have hdw : ∀ i, d.getD i 0 < 18446744073709551616 := by rw [hd]; exact getD_take_lt (canon_lt HCAN.out hfw) 8
          have e4 := cut8 c.length
          rw [← hdl] at e4
          have b41 : d.length ≤ c.length := by omega
          have b42 : d.length ≤ 8 := by omega
          clear hd hdl hCc HCAN hfw hcl
          go_wp2_with fail
          by_cases hd0 : d.length = 0
          · have hm : mayL d = (1, 0) := by rw [List.eq_nil_of_length_eq_zero hd0]; rfl
            have t0 : ((d.length : Int) == 0) = true := by rw [beq_iff_eq]; omega
            have hno := new_no ac cc d w2 hCd (by rw [hm]; decide)
            rw [hm] at hno
            clear hd0 hm
            refine hno.mono ?_
            rintro e w3 ⟨rfl, hdr⟩
            have B3 := below_step B2 (below_draw hdr)
            go_wp2
            go_ret
            exact ⟨rfl, B3⟩
          · refine (new_yes ac cc d w2 hCd (mayL_rising hdp.out (by omega) b42) hdw).mono ?_
            rintro e w3 ⟨tb, lb, tc, mb, rfl, T3, hb3⟩
            have B3 := below_step B2 hb3
            have hCd3 := hCd.kept hb3
            have t0 : ((d.length : Int) == 0) = false := by rw [beq_eq_false_iff_ne]; omega
            obtain ⟨bd, od, rfl, hcd⟩ := hCd3 (lab_ne d 0 (by omega))
            clear hb3 hCd hd0 B2 hlt' hge
            go_wp2
            go_loopw [114] (fun vi wr => ∃ i : Nat, i ≤ d.length ∧ vi = .int .i64 i ∧ Go.RowKit.Below w3.heap.size w3 wr) (fun vi _ => d.length - (intOf vi).toNat)
            case atStart => exact ⟨0, Nat.zero_le _, rfl, Go.RowKit.Below.refl _ _⟩
            case round =>
              obtain ⟨i, hid, rfl, hbr⟩ := hrel
              by_cases hlt : i < d.length
              · rename_i a6 _ a5 _ a4
                clear a6 a5 a4
                have hlt' : (i : Int) < (d.length : Int) := by omega
                obtain ⟨x, hx⟩ : ∃ x, Hid (x = d.getD i 0) := ⟨_, rfl⟩
                obtain ⟨U, hUe⟩ : ∃ U, Hid (U = upTo d (i : Nat) d.length) := ⟨_, rfl⟩
                obtain ⟨D, hDe⟩ : ∃ D, Hid (D = downTo d x d.length) := ⟨_, rfl⟩
                have hy0 := hcd i _ (lab_at d i hlt)
                rw [← hx.out] at hy0
                have hy : ∀ W, Go.RowKit.Below w3.heap.size w3 W → W.cell? ⟨bd, od + i, none⟩ = some (.int .u64 (x : Nat)) := fun W hW => (hW.cell (World.block_lt_of_cell? w3 _ hy0)).trans hy0
                have hU : ∀ W, Go.RowKit.Below w3.heap.size w3 W → Calls Try.prog 20 #[.pointer (some ⟨tb, 0, none⟩), .int .i64 i] W fun e w' => ∃ au cu, e = .returned (.slice au U.length cu) ∧ Cells w' au (intCells U) ∧ Go.RowKit.Below w3.heap.size w3 w' ∧ Go.RowKit.Below W.heap.size W w' := fun W hW => (up_any (T3.kept hW) (i : Nat)).mono fun e w' ⟨v, he, ho, hb⟩ => by
                  obtain ⟨au, cu, rfl, hc, _, _⟩ := cells_of_owns ho
                  rw [hUe.out]
                  exact ⟨au, cu, he, hc, below_step hW hb, hb⟩
                have hD : ∀ W, Go.RowKit.Below w3.heap.size w3 W → Calls Try.prog 26 #[.pointer (some ⟨tb, 0, none⟩), .int .u64 (x : Nat)] W fun e w' => ∃ au cu, e = .returned (.slice au D.length cu) ∧ Cells w' au (intCells D) ∧ Go.RowKit.Below w3.heap.size w3 w' ∧ Go.RowKit.Below W.heap.size W w' := fun W hW => (down_any (T3.kept hW) x (by rw [hx.out]; exact hdw i)).mono fun e w' ⟨v, he, ho, hb⟩ => by
                  obtain ⟨au, cu, rfl, hc, _, _⟩ := cells_of_owns ho
                  rw [hDe.out]
                  exact ⟨au, cu, he, hc, below_step hW hb, hb⟩
                have hy1 := hy wr hbr
                have hy2 := hy wr.drew hbr.drew
                go_upto_region 40 with fail
                go_cut [18, 19, 114] from 114 to 207 (fun s18 s19 s114 wx => ∃ au cu ad cd, s18 = .slice au U.length cu ∧ s19 = .slice ad D.length cd ∧ s114 = .int .i64 i ∧ Cells wx au (intCells U) ∧ Cells wx ad (intCells D) ∧ Go.RowKit.Below w3.heap.size w3 wx)
                case first =>
                  clear T3 B3 hcd hdw hx hUe hDe hCd3
                  rename_i a3 _ a2 _ _ a1 a0
                  clear a3 a2
                  go_region_with (first | (go_at_call 20; refine (hU _ (by first | assumption | exact hbr | exact hbr.drew)).mono ?_; rintro e wu ⟨au, cu, rfl, hcu, Bu, hbu⟩; have hyu1 := hy wu Bu; have hyu2 := hy wu.drew Bu.drew) | (go_at_call 26; refine (hD _ (by first | assumption | exact hbr | exact hbr.drew)).mono ?_; rintro e wd ⟨ad, cd, rfl, hcd2, Bd, hbd⟩))
                  all_goals
                    go_wp2_with fail
                    go_meet
                    case rel => exact ⟨au, cu, ad, cd, rfl, rfl, rfl, hcu.kept hbd, hcd2, Bd⟩
                case rest =>
                  obtain ⟨au, cu, ad, cd, rfl, rfl, rfl, hcu, hcd2, Bx⟩ := hcut
                  have Tx := T3.kept Bx
                  clear hU hD hy hy1 hy2 hy0 hcd hbr T3
                  obtain ⟨wq, rfl⟩ : ∃ W, W = wc := ⟨wc, rfl⟩
                  have hTm : ∀ m, Tab (wq.drewN m) tb lb tc mb d := fun m => Tx.kept (below_drewN (Go.RowKit.Below.refl _ _) m)
                  have hUl : U.length ≤ 1000 := by rw [hUe.out]; have := upTo_len d (i : Nat) d.length; omega
                  have hDl : D.length ≤ 1000 := by rw [hDe.out]; have := downTo_len d x d.length; omega
                  have hhU := fun (m j : Nat) => hasL_any au cu U (wq.drewN m) (hcu.drewN m) hUl j
                  have hhD := fun (m j : Nat) => hasL_any ad cd D (wq.drewN m) (hcd2.drewN m) hDl j
                  clear hcu hcd2
                  go_wp2_with fail
                  go_loopw [128] (fun vj wr => ∃ j m : Nat, j ≤ d.length ∧ vj = .int .i64 j ∧ wr = wq.drewN m) (fun vj _ => d.length - (intOf vj).toNat)
                  case atStart => exact ⟨0, 0, Nat.zero_le _, rfl, rfl⟩
                  case round =>
                    obtain ⟨j, m6, hjd, rfl, rfl⟩ := hrel
                    by_cases hlj : j < d.length
                    · have hlj' : (j : Int) < (d.length : Int) := by omega
                      have tij := fun m => tflows_any (hTm m) (i : Nat) (j : Nat)
                      have tji := fun m => tflows_any (hTm m) (j : Nat) (i : Nat)
                      have hu := fun m => hhU m j
                      have hd := fun m => hhD m j
                      rw [show (decide (j ∈ U)) = tflows d (i : Nat) (j : Nat) by rw [hUe.out]; exact up_has hlj] at hu
                      rw [show (decide (j ∈ D)) = tflows d (j : Nat) (i : Nat) by rw [hDe.out, hx.out]; exact down_has hlt hlj] at hd
                      clear hhU hhD
                      go_upto_region 44 with fail
                      go_cut [182] from 131 to 182 (fun s182 wy => ∃ m, s182 = .bool false ∧ wy = wq.drewN m)
                      case first =>
                        clear hTm
                        by_cases hf : tflows d (i : Nat) (j : Nat) = true
                        · rw [hf] at tij hu
                          have hle := rising_flows hdp.out hlt hlj hf
                          clear hf
                          by_cases hij : i = j
                          · have g1 : tflows d (j : Nat) (i : Nat) = true := by rw [hij]; exact flows_ii hlj
                            rw [g1] at tji hd
                            clear g1
                            have o1 : decide ((j : Int) < (i : Int)) = false := decide_eq_false (by omega)
                            have o1' : (i : Int) ≤ (j : Int) := by omega
                            have o2 : ((i : Int) == (j : Int)) = true := by rw [beq_iff_eq]; omega
                            have o3 : ((i : Int) != (j : Int)) = false := by simp; omega
                            clear hij hle
                            go_wp2_with fail
                            refine (tij _).mono ?_
                            rintro e ws ⟨rfl, ns, rfl⟩
                            rw [World.drewN_drewN]
                            go_wp2_with fail
                            refine (tij _).mono ?_
                            rintro e ws ⟨rfl, ns, rfl⟩
                            rw [World.drewN_drewN]
                            go_wp2_with fail
                            refine (tij _).mono ?_
                            rintro e ws ⟨rfl, ns, rfl⟩
                            rw [World.drewN_drewN]
                            go_wp2_with fail
                            refine (hu _).mono ?_
                            rintro e ws ⟨rfl, rfl⟩
                            go_wp2_with fail
                            refine (tji _).mono ?_
                            rintro e ws ⟨rfl, ns, rfl⟩
                            rw [World.drewN_drewN]
                            go_wp2_with fail
                            refine (hd _).mono ?_
                            rintro e ws ⟨rfl, rfl⟩
                            go_wp2_with fail
                            go_meet
                            case rel => exact ⟨_, congrArg Value.bool (decide_eq_false (by omega)), rfl⟩
                          · have g1 : tflows d (j : Nat) (i : Nat) = false := by
                              cases hc : tflows d (j : Nat) (i : Nat)
                              · rfl
                              · have := rising_flows hdp.out hlj hlt hc
                                omega
                            rw [g1] at tji hd
                            clear g1
                            have o1 : decide ((j : Int) < (i : Int)) = false := decide_eq_false (by omega)
                            have o1' : (i : Int) ≤ (j : Int) := by omega
                            have o2 : ((i : Int) == (j : Int)) = false := by rw [beq_eq_false_iff_ne]; omega
                            have o3 : ((i : Int) != (j : Int)) = true := by simp; omega
                            clear hij hle
                            go_wp2_with fail
                            refine (tij _).mono ?_
                            rintro e ws ⟨rfl, ns, rfl⟩
                            rw [World.drewN_drewN]
                            go_wp2_with fail
                            refine (tji _).mono ?_
                            rintro e ws ⟨rfl, ns, rfl⟩
                            rw [World.drewN_drewN]
                            go_wp2_with fail
                            refine (tij _).mono ?_
                            rintro e ws ⟨rfl, ns, rfl⟩
                            rw [World.drewN_drewN]
                            go_wp2_with fail
                            refine (hu _).mono ?_
                            rintro e ws ⟨rfl, rfl⟩
                            go_wp2_with fail
                            refine (tji _).mono ?_
                            rintro e ws ⟨rfl, ns, rfl⟩
                            rw [World.drewN_drewN]
                            go_wp2_with fail
                            refine (hd _).mono ?_
                            rintro e ws ⟨rfl, rfl⟩
                            go_wp2_with fail
                            go_meet
                            case rel => exact ⟨_, congrArg Value.bool (decide_eq_false (by omega)), rfl⟩
                        · have hf' : tflows d (i : Nat) (j : Nat) = false := by simpa using hf
                          have hij : i ≠ j := fun e => hf (by rw [e]; exact flows_ii hlj)
                          rw [hf'] at tij hu
                          have o2 : ((i : Int) == (j : Int)) = false := by rw [beq_eq_false_iff_ne]; omega
                          clear hf hf' hij
                          generalize tflows d (j : Nat) (i : Nat) = g at *
                          go_wp2_with fail
                          refine (tij _).mono ?_
                          rintro e ws ⟨rfl, ns, rfl⟩
                          rw [World.drewN_drewN]
                          go_wp2_with fail
                          refine (tij _).mono ?_
                          rintro e ws ⟨rfl, ns, rfl⟩
                          rw [World.drewN_drewN]
                          go_wp2_with fail
                          refine (hu _).mono ?_
                          rintro e ws ⟨rfl, rfl⟩
                          go_wp2_with fail
                          refine (tji _).mono ?_
                          rintro e ws ⟨rfl, ns, rfl⟩
                          rw [World.drewN_drewN]
                          go_wp2_with fail
                          refine (hd _).mono ?_
                          rintro e ws ⟨rfl, rfl⟩
                          go_wp2_with fail
                          go_meet
                          case rel => exact ⟨_, rfl, rfl⟩
                      case rest =>
                        obtain ⟨m8, rfl, rfl⟩ := hcut
                        clear hu hd tji
                        go_wp2_with fail
                        go_loopw [185] (fun vk wr => ∃ k m : Nat, k ≤ d.length ∧ vk = .int .i64 k ∧ wr = wq.drewN m) (fun vk _ => d.length - (intOf vk).toNat)
                        case atStart => exact ⟨0, _, Nat.zero_le _, rfl, rfl⟩
                        case round =>
                          obtain ⟨k, m7, hkd, rfl, rfl⟩ := hrel
                          by_cases hlk : k < d.length
                          · have hlk' : (k : Int) < (d.length : Int) := by omega
                            have tjk := fun m => tflows_any (hTm m) (j : Nat) (k : Nat)
                            have tik := fun m => tflows_any (hTm m) (i : Nat) (k : Nat)
                            by_cases hf : tflows d (i : Nat) (j : Nat) = true
                            · by_cases hg : tflows d (j : Nat) (k : Nat) = true
                              · rw [flows_tr hlt hlj hlk hf hg] at tik
                                rw [hg] at tjk
                                rw [hf] at tij
                                clear hg hf
                                go_wp2_with fail
                                refine (tij _).mono ?_
                                rintro e ws ⟨rfl, ns, rfl⟩
                                rw [World.drewN_drewN]
                                go_wp2_with fail
                                refine (tjk _).mono ?_
                                rintro e ws ⟨rfl, ns, rfl⟩
                                rw [World.drewN_drewN]
                                go_wp2_with fail
                                refine (tik _).mono ?_
                                rintro e ws ⟨rfl, ns, rfl⟩
                                rw [World.drewN_drewN]
                                go_wp2
                                go_roundw
                                case rel => exact ⟨k + 1, _, by omega, by go_num, rfl⟩
                                case measure => simp [intOf]; omega
                              · have hg' : tflows d (j : Nat) (k : Nat) = false := by simpa using hg
                                rw [hg'] at tjk
                                rw [hf] at tij
                                clear hg hg' hf tik
                                go_wp2_with fail
                                refine (tij _).mono ?_
                                rintro e ws ⟨rfl, ns, rfl⟩
                                rw [World.drewN_drewN]
                                go_wp2_with fail
                                refine (tjk _).mono ?_
                                rintro e ws ⟨rfl, ns, rfl⟩
                                rw [World.drewN_drewN]
                                go_wp2
                                go_roundw
                                case rel => exact ⟨k + 1, _, by omega, by go_num, rfl⟩
                                case measure => simp [intOf]; omega
                            · have hf' : tflows d (i : Nat) (j : Nat) = false := by simpa using hf
                              rw [hf'] at tij
                              clear hf hf' tjk tik
                              go_wp2_with fail
                              refine (tij _).mono ?_
                              rintro e ws ⟨rfl, ns, rfl⟩
                              rw [World.drewN_drewN]
                              go_wp2
                              go_roundw
                              case rel => exact ⟨k + 1, _, by omega, by go_num, rfl⟩
                              case measure => simp [intOf]; omega
                          · have hlk' : decide ((k : Int) < (d.length : Int)) = false := decide_eq_false (by omega)
                            have hgk : (d.length : Int) ≤ (k : Int) := by omega
                            go_wp2
                            go_roundw
                            case rel => exact ⟨j + 1, _, by omega, by go_num, rfl⟩
                            case measure => simp [intOf]; omega
                    · have hlj' : decide ((j : Int) < (d.length : Int)) = false := decide_eq_false (by omega)
                      have hgj : (d.length : Int) ≤ (j : Int) := by omega
                      go_wp2
                      go_roundw
                      case rel => exact ⟨i + 1, by omega, by go_num, below_drewN Bx _⟩
                      case measure => simp [intOf]; omega
              · have hlt' : decide ((i : Int) < (d.length : Int)) = false := decide_eq_false (by omega)
                have hge : (d.length : Int) ≤ (i : Int) := by omega
                go_wp2
                go_ret
                exact ⟨rfl, below_step B3 hbr⟩
end Go.Proofs.Ytaikeeidjfcijaa
