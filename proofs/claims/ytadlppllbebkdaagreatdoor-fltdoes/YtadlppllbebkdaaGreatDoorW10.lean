/- 1.5 printed by the library. -/
import Derived.Test.YtadlppllbebkdaaGreatDoorW9a
import Derived.Deep.RegionWith
namespace Go.Proofs.YtadlppllbebkdaaGreatDoor
open Go.RowKit

/-- The row of 32 zeros. -/
theorem zeros_new (w : World) (o : Obj) (ho : o = .cells (Array.replicate 32 (.int .u8 0)) 131) : ∀ t, t < 32 → (w.alloc o).cell? ⟨w.heap.size, t, none⟩ = some (.int .u8 0) ∧ (w.alloc o).frozen? ⟨w.heap.size, t, none⟩ = false := by
  subst ho
  intro t ht
  constructor
  · rw [cell_of_row _ _ t (Array.replicate 32 (.int .u8 0)) 131 (0, 0) (heap_alloc_new w _)]
    simp [ht]
  · simp [go_sem]

set_option maxRecDepth 100000 in
set_option maxHeartbeats 2000000 in
theorem ftoa_a (B q : Nat) (w : World) (T : Tabs w) (hB : Buf B w q 0 []) :
    Calls Tryz.prog 89 #[.slice (some ⟨q, 0, none⟩) 0 24, .float .f64 4609434218613702656, .int .u8 101, .int .i64 (-1)] w fun e w' =>
      ∃ N, e = .returned (.slice (some ⟨q, 0, none⟩) N 24) ∧ Buf B w' q N [49, 46, 53, 101, 43, 48, 48] ∧ Below B w w' := by
  have c108 := call108
  have hL := fun W => Tryz.bits_Len64 6755399441055744 W (by omega) (by omega)
  have eL : Lib.bitLen (6755399441055744 : Int).toNat = 53 := by decide +kernel
  rw [eL] at hL
  have hb1 : bits .and .i64 1023 2047 = 1023 := by kernel_rfl
  have hb2 : bits .and .u64 4609434218613702656 4503599627370495 = 2251799813685248 := by kernel_rfl
  have hb3 : bits .or .u64 2251799813685248 4503599627370496 = 6755399441055744 := by kernel_rfl
  go_enter Tryz.func89, Tryz.ntmps89
  go_wp2_with fail
  go_quiet (fail)
  go_wp2_with (go_at_call 83; refine (hL _).mono ?_; rintro e w' ⟨rfl, rfl⟩)
  have hb0 : Below w.heap.size w ((w.drewN nq).alloc (.cells (Array.replicate 32 (.int .u8 0)) 131)) := (below_drewN (Below.refl _ w) nq).alloc (by simp) _
  refine (short_a _ (T.kept hb0)).mono ?_
  rintro e w2 ⟨rfl, hb2⟩
  have hs2 : w.heap.size < ((w.drewN nq).alloc (.cells (Array.replicate 32 (.int .u8 0)) 131)).heap.size := by simp
  have hbw : Below w.heap.size w w2 := hb0.trans (hb2.mono (by simp))
  have T2 : Tabs w2 := T.kept hbw
  have T3 : Tabs w2.drew := T2.kept (Below.refl _ w2).drew
  have hZ : ∀ t, t < 32 → w2.cell? ⟨w.heap.size, t, none⟩ = some (.int .u8 0) ∧ w2.frozen? ⟨w.heap.size, t, none⟩ = false := fun t ht => by
    have h := zeros_new (w.drewN nq) _ rfl t ht
    exact ⟨(hb2.cell hs2).trans h.1, (hb2.frozen hs2).trans h.2⟩
  have hN : ∀ W, Tabs W → Calls Tryz.prog 68 #[.int .u64 1500000000000000] W fun e w' => e = .returned (.int .i64 16) ∧ w' = W := fun W TW => by
    have := Tryz.internal_strconv_numDigits 1500000000000000 (by omega) (by omega) W TW.ten
    have e : Lib.nDigits 1500000000000000 = 16 := by decide +kernel
    rw [e] at this
    exact this
  have hS2 := setDigits_any w.heap.size 1500000000000000 16 (-15) w2 (by omega) (by omega) (by omega) (by omega) (by omega) (by omega) hZ
  have hS3 := setDigits_any w.heap.size 1500000000000000 16 (-15) w2.drew (by omega) (by omega) (by omega) (by omega) (by omega) (by omega) hZ
  have e1 : nzd 1500000000000000 16 = 2 := by decide +kernel
  rw [e1] at hS2 hS3
  clear e1
  go_wp2_with fail
  go_region_with (first | (go_at_call 68; refine (hN _ (by first | exact T2 | exact T3)).mono ?_; rintro e w' ⟨rfl, rfl⟩) | (go_at_call 113; first | (refine hS3.mono ?_; rintro e w3 ⟨rfl, hD, hb3⟩) | (refine hS2.mono ?_; rintro e w3 ⟨rfl, hD, hb3⟩)))
  have hbq := hB.base
  have hB2 : Buf B w3 q 0 [] := by
    refine ⟨rfl, hB.2.1, ?_⟩
    have hq3 : w3.heap[q]? = w.heap[q]? := (hb3.block q hbq.2).trans (hbw.block q hbq.2)
    rcases hB.2.2 with ⟨h, _⟩ | ⟨g, cap, cur, h, r⟩
    · simp at h
    · refine .inr ⟨g, cap, cur, h, ?_⟩
      simp only [Value.slice.injEq, Option.some.injEq, Addr.mk.injEq, and_true, true_and] at h
      obtain ⟨rfl, rfl⟩ := h
      rw [hq3]
      exact r
  have hF := fmtE_0101 B q w.heap.size w3 (fun t => Lib.dg 1500000000000000 (15 - t)) 0 (by omega) 0 (by omega) hB2 (by omega) (fun t ht => by
    have h := hD t (by omega)
    rw [h, dg_toNat])
  have eF : fmtL false (fun t => Lib.dg 1500000000000000 (15 - t)) (0 + 2) false 0 = [49, 46, 53, 101, 43, 48, 48] := by decide +kernel
  rw [eF] at hF
  have hbl : Below B w w3 := (hbw.trans ((Below.refl _ w2).drew.trans hb3)).mono (by omega)
  have hmax : max (1 : Int) 0 = 1 := by decide
  clear hD hb3 hB2 hN hS2 hS3 hZ
  go_wp2_with fail
  refine hF.mono ?_
  rintro e w4 ⟨N, rfl, hB4, hb4⟩
  go_wp2
  go_ret
  exact ⟨N, rfl, hB4, hbl.trans hb4⟩

theorem buf_string {B : Nat} {w : World} {q n : Nat} {l : List UInt8} (h : Buf B w q n l) :
    (convert 96 9 (.slice (some ⟨q, 0, none⟩) n 24)).run Tryz.prog w = .ok (.string ⟨l.toArray⟩) w := by
  obtain ⟨hn, hc⟩ := h
  subst hn
  refine run_convert_bytes_back w 96 9 5 _ 24 l Tryz.underlying96 Tryz.underlying5 Tryz.underlying9 ?_
  intro j hj
  refine hc.cells (g := q) rfl j _ ?_
  simp [Lib.byteCells, hj]

theorem make24 (w : World) : (Instr.makeSlice 96 (.int .i64 0) (.int .i64 24)).run Tryz.prog w = .ok (.slice (some ⟨w.heap.size, 0, none⟩) 0 24) (w.alloc (.cells (Array.replicate 24 (.int .u8 0)) 5)) := by
  obtain ⟨i0, hi, hz0, hz1, hz2⟩ := info_size
  have h := run_make w 96 5 i0 (.int .u8 0) Tryz.underlying96 hi hz0 .i64 .i64 0 24 (by omega) (by omega) (by rw [hz2]; decide) (by omega)
  have e : madeCells (Value.int .u8 0).cells ((24 : Int).toNat * 1) = Array.replicate 24 (.int .u8 0) := by kernel_rfl
  rw [hz1, e] at h
  exact h

set_option maxRecDepth 100000 in
theorem format_a (w : World) (T : Tabs w) :
    Calls Tryz.prog 72 #[.float .f64 4609434218613702656, .int .u8 101, .int .i64 (-1), .int .i64 64] w fun e w' => e = .returned (.string ⟨#[49, 46, 53, 101, 43, 48, 48]⟩) ∧ Below w.heap.size w w' := by
  have hm : max (3 : Int) 24 = 24 := by decide
  have hmk := make24
  have hb1 : Below w.heap.size w (w.alloc (.cells (Array.replicate 24 (.int .u8 0)) 5)) := (Below.refl _ w).alloc (Nat.le_refl _) _
  have hF := ftoa_a _ _ _ (T.kept hb1) (Buf.made w)
  go_enter Tryz.func72, Tryz.ntmps72
  go_wp2_with fail
  refine hF.mono ?_
  rintro e w1 ⟨N, rfl, hB, hb⟩
  have hs := buf_string hB
  go_wp2_with fail
  go_ret
  exact ⟨rfl, hb1.trans hb⟩

set_option maxRecDepth 100000 in
theorem formatFloat_a (w : World) (T : Tabs w) :
    Calls Tryz.prog 53 #[.float .f64 4609434218613702656, .int .u8 101, .int .i64 (-1), .int .i64 64] w fun e w' => e = .returned (.string ⟨#[49, 46, 53, 101, 43, 48, 48]⟩) ∧ Below w.heap.size w w' := by
  have hF := format_a w T
  go_enter Tryz.func53, Tryz.ntmps53
  go_wp2_with fail
  refine hF.mono ?_
  rintro e w1 ⟨rfl, hb⟩
  go_wp2_with fail
  go_ret
  exact ⟨rfl, hb⟩

/-- Cut at the one letter e. -/
theorem cut_e (s : ByteArray) (i : Nat) (w : World) (hi : Lib.indexByte s.data.toList 101 = (i : Int)) (hs : i + 1 ≤ s.size) (hz : s.size ≤ 1000) :
    Calls Tryz.prog 52 #[.string s, .string ⟨#[101]⟩] w fun e w' => e = .returned (.tuple #[.string (s.extract 0 i), .string (s.extract (i + 1) s.size), .bool true]) ∧ ∃ n, w' = w.drewN n := by
  have h1 := fun W => Tryz.stringslite_Index_one s 101 W
  rw [hi] at h1
  have h2 : ∀ W, Calls Tryz.prog 71 #[.string s, .string ⟨#[101]⟩] W fun e w' => e = .returned (.tuple #[.string (s.extract 0 i), .string (s.extract (i + 1) s.size), .bool true]) ∧ ∃ n, w' = W.drewN n := fun W => by
    have hge : (0 : Int) ≤ (i : Int) := by omega
    have hge1 : (0 : Int) ≤ (i : Int) + 1 := by omega
    have hle : (i : Int) + 1 ≤ (s.size : Int) := by omega
    have hle' : (i : Int) ≤ (s.size : Int) := by omega
    go_enter Tryz.func71, Tryz.ntmps71
    go_wp2_with (go_at_call 87; refine (h1 _).mono ?_; rintro e w' ⟨rfl, rfl⟩)
    go_region
    go_wp2
    go_ret3
    exact ⟨rfl, 1, rfl⟩
  go_enter Tryz.func52, Tryz.ntmps52
  go_wp2_with (go_at_call 71; refine (h2 _).mono ?_; rintro e w' ⟨rfl, n, rfl⟩)
  go_ret3
  exact ⟨rfl, _, rfl⟩

set_option maxRecDepth 100000 in
theorem decimal_a (w : World) (T : Tabs w) :
    Calls Tryz.prog 32 #[.float .f64 4609434218613702656] w fun e w' => e = .returned (.string ⟨#[49, 46, 53, 101, 48]⟩) ∧ Below w.heap.size w w' := by
  have hF := formatFloat_a w T
  have hC := fun W => cut_e ⟨#[49, 46, 53, 101, 43, 48, 48]⟩ 3 W (by decide +kernel) (by decide +kernel) (by decide +kernel)
  have e1 : ((⟨#[49, 46, 53, 101, 43, 48, 48]⟩ : ByteArray).extract 0 3) = ⟨#[49, 46, 53]⟩ := by decide +kernel
  have e2 : ((⟨#[49, 46, 53, 101, 43, 48, 48]⟩ : ByteArray).extract (3 + 1) (⟨#[49, 46, 53, 101, 43, 48, 48]⟩ : ByteArray).size) = ⟨#[43, 48, 48]⟩ := by decide +kernel
  rw [e1, e2] at hC
  have hA := fun W => Tryz.strconv_Atoi ⟨#[43, 48, 48]⟩ 0 (by decide +kernel) (by decide +kernel) W
  have hI := fun W => Tryz.strconv_Itoa_small 0 (by omega) W
  have e3 : (⟨(Lib.decDigits 0).toArray⟩ : ByteArray) = ⟨#[48]⟩ := by decide +kernel
  rw [e3] at hI
  clear e1 e2 e3
  go_enter Tryz.func32, Tryz.ntmps32
  go_wp2_with fail
  refine hF.mono ?_
  rintro e w1 ⟨rfl, hb⟩
  go_wp2_with fail
  refine (hC _).mono ?_
  rintro e w2 ⟨rfl, n, rfl⟩
  go_wp2_with fail
  refine (hA _).mono ?_
  rintro e w3 ⟨rfl, t, rfl⟩
  go_wp2_with fail
  refine (hI _).mono ?_
  rintro e w4 ⟨rfl, rfl⟩
  go_wp2
  go_ret
  have e4 : ((⟨#[49, 46, 53]⟩ : ByteArray) ++ ⟨#[101]⟩ ++ ⟨#[48]⟩) = ⟨#[49, 46, 53, 101, 48]⟩ := by decide +kernel
  refine ⟨by rw [e4]; rfl, ?_⟩
  have h2 : Below w.heap.size w (w1.drewN n) := below_drewN hb n
  exact h2.trans ((Lib.bytesWorld_below _ _ _).mono h2.size)

theorem isInf_a1 (W : World) : Calls Tryz.prog 31 #[.float .f64 4609434218613702656, .int .i64 1] W fun e w' => e = .returned (.bool false) ∧ w' = W := by
  have hg : (FloatKind.f64.format.order 4609434218613702656 9218868437227405311 == some .gt) = false := by decide +kernel
  go_enter Tryz.func31, Tryz.ntmps31
  go_wp2
  go_ret
  exact ⟨rfl, rfl⟩
theorem isInf_a2 (W : World) : Calls Tryz.prog 31 #[.float .f64 4609434218613702656, .int .i64 (-1)] W fun e w' => e = .returned (.bool false) ∧ w' = W := by
  have hn : ∀ V : World, (Op.unary .neg (.float .f64 4609434218613702656)).run Tryz.prog V = .ok (.float .f64 13832806255468478464) V := fun V => rfl
  have hg : (FloatKind.f64.format.order 13832806255468478464 9218868437227405311 == some .gt) = false := by decide +kernel
  go_enter Tryz.func31, Tryz.ntmps31
  go_wp2
  go_ret
  exact ⟨rfl, rfl⟩

set_option maxRecDepth 100000 in
set_option maxHeartbeats 1000000 in
theorem print_a (w : World) (T : Tabs w) :
    Calls Tryz.prog 12 #[.int .i64 4609434218613702656] w fun e w' => e = .returned (.string ⟨#[49, 46, 53, 101, 48]⟩) ∧ Below w.heap.size w w' := by
  have h18 := floatOf_wd 4609434218613702656
  have e18 : wd 4609434218613702656 = 4609434218613702656 := by kernel_rfl
  rw [e18] at h18
  have h29 := isNaN_any 4609434218613702656
  have e29 : decide (INF < rungOf 4609434218613702656) = false := by decide +kernel
  rw [e29] at h29
  have hi1 := isInf_a1
  have hi2 := isInf_a2
  have hD := decimal_a w T
  clear e18 e29 T
  go_enter Tryz.func12, Tryz.ntmps12
  go_wp2_with fail
  refine (h18 _).mono ?_
  rintro e w' ⟨rfl, rfl⟩
  go_wp2_with (go_at_call 29; refine (h29 _).mono ?_; rintro e w' ⟨rfl, rfl⟩)
  refine (hi1 _).mono ?_
  rintro e w' ⟨rfl, rfl⟩
  go_wp2_with fail
  refine (hi2 _).mono ?_
  rintro e w' ⟨rfl, rfl⟩
  go_wp2_with fail
  refine hD.mono ?_
  rintro e w' ⟨rfl, hb⟩
  go_wp2
  go_ret
  exact ⟨rfl, hb⟩
end Go.Proofs.YtadlppllbebkdaaGreatDoor
