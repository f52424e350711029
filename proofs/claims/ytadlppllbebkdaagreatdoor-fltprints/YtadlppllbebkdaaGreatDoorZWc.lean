/- The library's own form of a float's digits and exponent. -/
import Derived.Test.YtadlppllbebkdaaGreatDoorZWb
import Derived.Deep.RegionWith
namespace Go.Proofs.YtadlppllbebkdaaGreatDoor
open Go.RowKit

theorem news_new (w : World) (m : List UInt8) (vs : List Value) (h : vs = Lib.byteCells m) : ∀ j u, (Lib.byteCells m)[j]? = some u → (w.alloc (.cells vs.toArray 5)).cell? ((⟨w.heap.size, 0, none⟩ : Addr).add j) = some u := by
  intro j u hu
  subst h
  have hj : j < (Lib.byteCells m).length := (List.getElem?_eq_some_iff.1 hu).1
  rw [Addr.add_lit, Nat.zero_add]
  rw [cell_of_row _ _ j (Lib.byteCells m).toArray 5 (0, 0) (heap_alloc_new w _)]
  simpa using hu

/-- The letters of an exponent without its sign. -/
def expD (M : Nat) : List UInt8 := if M < 10 then [48, UInt8.ofNat (48 + M)] else if M < 100 then [UInt8.ofNat (48 + M / 10), UInt8.ofNat (48 + M % 10)] else [UInt8.ofNat (48 + M / 100), UInt8.ofNat (48 + M / 10 % 10), UInt8.ofNat (48 + M % 10)]
/-- The digits behind the point. -/
def moreD (g : Nat → UInt8) (nd : Nat) : List UInt8 := (List.range (nd - 1)).map fun t => g (t + 1)
/-- The text: sign, digits, exponent (its sign and M). -/
def fmtL (neg : Bool) (g : Nat → UInt8) (nd : Nat) (minus : Bool) (M : Nat) : List UInt8 :=
  (if neg then [45] else []) ++ [g 0] ++ (if 1 < nd then 46 :: moreD g nd else []) ++ [101] ++ [if minus then 45 else 43] ++ expD M

theorem u8_val (k : Nat) (h : k < 256) : ((UInt8.ofNat k).toNat : Int) = (k : Int) := by
  have : (UInt8.ofNat k).toNat = k := by simp; omega
  rw [this]

theorem more_cells (b : Nat) (w : World) (g : Nat → UInt8) (nd : Nat) (h : ∀ t, t < nd → w.cell? ⟨b, t, none⟩ = some (.int .u8 ((g t).toNat : Int))) :
    ∀ j u, (Lib.byteCells (moreD g nd))[j]? = some u → w.cell? ((⟨b, 1, none⟩ : Addr).add j) = some u := by
  intro j u hu
  have hj : j < (Lib.byteCells (moreD g nd)).length := (List.getElem?_eq_some_iff.1 hu).1
  have hj' : j < nd - 1 := by simpa [Lib.byteCells, moreD] using hj
  rw [Addr.add_lit, Nat.add_comm 1 j, h (j + 1) (by omega)]
  simp [Lib.byteCells, moreD, hj'] at hu
  rw [← hu]

theorem cell_grown {w w' : World} {q b t : Nat} {v : Value} (hg : w.grownBy w' (some q)) (hq : b ≠ q) (h : w.cell? ⟨b, t, none⟩ = some v) : w'.cell? ⟨b, t, none⟩ = some v := by
  have hb : b < w.heap.size := World.block_lt_of_cell? w _ h
  rw [← h]
  exact World.cell?_of_block (w := w) (hg.block b hb (fun e => hq (Option.some.inj e)))

theorem cell_alloc {w : World} {o : Obj} {b t : Nat} {v : Value} (h : w.cell? ⟨b, t, none⟩ = some v) : (w.alloc o).cell? ⟨b, t, none⟩ = some v :=
  (((Below.refl _ w).alloc (Nat.le_refl _) o).cell (World.block_lt_of_cell? w _ h)).trans h

set_option maxRecDepth 100000 in
set_option maxHeartbeats 2000000 in
theorem fmtE_0101 (B q b : Nat) (w : World) (g : Nat → UInt8) (k : Nat) (hk : k ≤ 15) (M : Nat) (hM : M < 10) (hB : Buf B w q 0 []) (_hq : b ≠ q)
    (hc : ∀ t, t < (k + 2) → w.cell? ⟨b, t, none⟩ = some (.int .u8 ((g t).toNat : Int))) :
    Calls Tryz.prog 111 #[.slice (some ⟨q, 0, none⟩) 0 24, .bool false, .slice (some ⟨b, 0, none⟩) 32 32, .int .i64 ((M : Int) + 1), .int .i64 ((k : Int) + 2), .int .i64 ((k : Int) + 1), .int .u8 101, .bool true] w fun e w' =>
      ∃ N, e = .returned (.slice (some ⟨q, 0, none⟩) N 24) ∧ Buf B w' q N (fmtL false g (k + 2) false M) ∧ Below B w w' := by
  have hk1 : ¬ ((k : Int) + 2 = 0) := by omega
  have hmin : min ((k : Int) + 2) ((k : Int) + 1 + 1) = (k : Int) + 2 := by omega
  have hzero : (k : Int) + 1 + 1 - ((k : Int) + 2) = 0 := by omega
  obtain ⟨hBq, hqw⟩ := hB.base
  have hb0 := Below.refl B w
  go_enter Tryz.func111, Tryz.ntmps111
  go_wp2_with (first
    | (at_builtin; refine wp_app _ rfl _ _ rfl B q _ _ [g 0] 1 _ rfl (Buf.alloc hB _) ⟨_, 0, none⟩ rfl rfl (news_new _ _ _ (by first | rfl | (simp [Lib.byteCells]))) (by omega) ?_; intro w1 N1 hN1 hB1 hg1; have hb1 : Below B w w1 := (hb0.alloc (by have := hb0.size; omega) _).grown hg1 (by simp; have := hb0.size; omega) (fun j hj => by cases hj; omega); have hc1 : ∀ t, t < (k + 2) → w1.cell? ⟨b, t, none⟩ = some (.int .u8 ((g t).toNat : Int)) := fun t ht => cell_grown hg1 _hq (cell_alloc (hc t ht)))
    | (at_builtin; refine wp_app _ rfl _ _ rfl B q _ _ [46] 1 _ rfl (Buf.alloc hB1 _) ⟨_, 0, none⟩ rfl rfl (news_new _ _ _ (by first | rfl | (simp [Lib.byteCells]))) (by have := hN1.out; omega) ?_; intro w2 N2 hN2 hB2 hg2; have hb2 : Below B w w2 := (hb1.alloc (by have := hb1.size; omega) _).grown hg2 (by simp; have := hb1.size; omega) (fun j hj => by cases hj; omega); have hc2 : ∀ t, t < (k + 2) → w2.cell? ⟨b, t, none⟩ = some (.int .u8 ((g t).toNat : Int)) := fun t ht => cell_grown hg2 _hq (cell_alloc (hc1 t ht)))
    | (at_builtin; refine wp_app _ rfl _ _ rfl B q _ _ (moreD g (k + 2)) _ _ rfl hB2 ⟨b, 1, none⟩ (by simp [moreD]) rfl (more_cells b _ g (k + 2) hc2) (by have := hN1.out; have := hN2.out; omega) ?_; intro w3 N3 hN3 hB3 hg3; have hb3 : Below B w w3 := hb2.grown hg3 (by have := hb2.size; omega) (fun j hj => by cases hj; omega)))
  refine wp_loop_rounds 1 ?_
  rw [rounds_succ]
  go_wp2_with (first
    | (at_builtin; refine wp_app _ rfl _ _ rfl B q _ _ [101] 1 _ rfl (Buf.alloc hB3 _) ⟨_, 0, none⟩ rfl rfl (news_new _ _ _ (by first | rfl | (simp [Lib.byteCells]))) (by have := hN1.out; have := hN2.out; have := hN3.out; omega) ?_; intro w4 N4 hN4 hB4 hg4; have hb4 : Below B w w4 := (hb3.alloc (by have := hb3.size; omega) _).grown hg4 (by simp; have := hb3.size; omega) (fun j hj => by cases hj; omega))
    | (at_builtin; refine wp_app _ rfl _ _ rfl B q _ _ [43] 1 _ rfl (Buf.alloc hB4 _) ⟨_, 0, none⟩ rfl rfl (news_new _ _ _ (by first | rfl | (simp [Lib.byteCells]))) (by have := hN1.out; have := hN2.out; have := hN3.out; have := hN4.out; omega) ?_; intro w5 N5 hN5 hB5 hg5; have hb5 : Below B w w5 := (hb4.alloc (by have := hb4.size; omega) _).grown hg5 (by simp; have := hb4.size; omega) (fun j hj => by cases hj; omega))
    | (at_builtin; refine wp_app _ rfl _ _ rfl B q _ _ [48, UInt8.ofNat (48 + M)] 2 _ rfl (Buf.alloc hB5 _) ⟨_, 0, none⟩ rfl rfl (news_new _ _ _ (by simp [Lib.byteCells]; omega)) (by have := hN1.out; have := hN2.out; have := hN3.out; have := hN4.out; have := hN5.out; omega) ?_; intro w6 N6 hN6 hB6 hg6; have hb6 : Below B w w6 := (hb5.alloc (by have := hb5.size; omega) _).grown hg6 (by simp; have := hb5.size; omega) (fun j hj => by cases hj; omega)))
  go_ret
  refine ⟨_, rfl, ?_, hb6⟩
  have e : expD M = [48, UInt8.ofNat (48 + M)] := by unfold expD; rw [if_pos hM]
  have hf := hB6
  unfold fmtL
  rw [← e] at hf
  generalize expD M = D at hf ⊢
  simpa using hf
end Go.Proofs.YtadlppllbebkdaaGreatDoor

/- 1.5 printed by the library. -/
namespace Go.Proofs.YtadlppllbebkdaaGreatDoor
open Go.RowKit

/-- The row of 32 zeros. -/
theorem zeros_new (w : World) (o : Obj) (ho : o = .cells (Array.replicate 32 (.int .u8 0)) 131) : ∀ t, t < 32 → (w.alloc o).cell? ⟨w.heap.size, t, none⟩ = some (.int .u8 0) ∧ (w.alloc o).frozen? ⟨w.heap.size, t, none⟩ = false := by
  subst ho
  intro t ht
  constructor
  · rw [cell_of_row _ _ t (Array.replicate 32 (.int .u8 0)) 131 (0, 0) (heap_alloc_new w _)]
    simp [ht]
  · simp [go_sem]

set_option maxRecDepth 100000 in
set_option maxHeartbeats 2000000 in
theorem ftoa_a (B q : Nat) (w : World) (T : Tabs w) (hB : Buf B w q 0 []) :
    Calls Tryz.prog 89 #[.slice (some ⟨q, 0, none⟩) 0 24, .float .f64 4609434218613702656, .int .u8 101, .int .i64 (-1)] w fun e w' =>
      ∃ N, e = .returned (.slice (some ⟨q, 0, none⟩) N 24) ∧ Buf B w' q N [49, 46, 53, 101, 43, 48, 48] ∧ Below B w w' := by
  have c108 := call108
  have hL := fun W => Tryz.bits_Len64 6755399441055744 W (by omega) (by omega)
  have eL : Lib.bitLen (6755399441055744 : Int).toNat = 53 := by decide +kernel
  rw [eL] at hL
  have hb1 : bits .and .i64 1023 2047 = 1023 := by kernel_rfl
  have hb2 : bits .and .u64 4609434218613702656 4503599627370495 = 2251799813685248 := by kernel_rfl
  have hb3 : bits .or .u64 2251799813685248 4503599627370496 = 6755399441055744 := by kernel_rfl
  go_enter Tryz.func89, Tryz.ntmps89
  go_wp2_with fail
  go_quiet (fail)
  go_wp2_with (go_at_call 83; refine (hL _).mono ?_; rintro e w' ⟨rfl, rfl⟩)
  have hb0 : Below w.heap.size w ((w.drewN nq).alloc (.cells (Array.replicate 32 (.int .u8 0)) 131)) := (below_drewN (Below.refl _ w) nq).alloc (by simp) _
  refine (short_a _ (T.kept hb0)).mono ?_
  rintro e w2 ⟨rfl, hb2⟩
  have hs2 : w.heap.size < ((w.drewN nq).alloc (.cells (Array.replicate 32 (.int .u8 0)) 131)).heap.size := by simp
  have hbw : Below w.heap.size w w2 := hb0.trans (hb2.mono (by simp))
  have T2 : Tabs w2 := T.kept hbw
  have T3 : Tabs w2.drew := T2.kept (Below.refl _ w2).drew
  have hZ : ∀ t, t < 32 → w2.cell? ⟨w.heap.size, t, none⟩ = some (.int .u8 0) ∧ w2.frozen? ⟨w.heap.size, t, none⟩ = false := fun t ht => by
    have h := zeros_new (w.drewN nq) _ rfl t ht
    exact ⟨(hb2.cell hs2).trans h.1, (hb2.frozen hs2).trans h.2⟩
  have hN : ∀ W, Tabs W → Calls Tryz.prog 68 #[.int .u64 1500000000000000] W fun e w' => e = .returned (.int .i64 16) ∧ w' = W := fun W TW => by
    have := Tryz.internal_strconv_numDigits 1500000000000000 (by omega) (by omega) W TW.ten
    have e : Lib.nDigits 1500000000000000 = 16 := by decide +kernel
    rw [e] at this
    exact this
  have hS2 := setDigits_any w.heap.size 1500000000000000 16 (-15) w2 (by omega) (by omega) (by omega) (by omega) (by omega) (by omega) hZ
  have hS3 := setDigits_any w.heap.size 1500000000000000 16 (-15) w2.drew (by omega) (by omega) (by omega) (by omega) (by omega) (by omega) hZ
  have e1 : nzd 1500000000000000 16 = 2 := by decide +kernel
  rw [e1] at hS2 hS3
  clear e1
  go_wp2_with fail
  go_region_with (first | (go_at_call 68; refine (hN _ (by first | exact T2 | exact T3)).mono ?_; rintro e w' ⟨rfl, rfl⟩) | (go_at_call 113; first | (refine hS3.mono ?_; rintro e w3 ⟨rfl, hD, hb3⟩) | (refine hS2.mono ?_; rintro e w3 ⟨rfl, hD, hb3⟩)))
  have hbq := hB.base
  have hB2 : Buf B w3 q 0 [] := by
    refine ⟨rfl, hB.2.1, ?_⟩
    have hq3 : w3.heap[q]? = w.heap[q]? := (hb3.block q hbq.2).trans (hbw.block q hbq.2)
    rcases hB.2.2 with ⟨h, _⟩ | ⟨g, cap, cur, h, r⟩
    · simp at h
    · refine .inr ⟨g, cap, cur, h, ?_⟩
      simp only [Value.slice.injEq, Option.some.injEq, Addr.mk.injEq, and_true, true_and] at h
      obtain ⟨rfl, rfl⟩ := h
      rw [hq3]
      exact r
  have hF := fmtE_0101 B q w.heap.size w3 (fun t => Lib.dg 1500000000000000 (15 - t)) 0 (by omega) 0 (by omega) hB2 (by omega) (fun t ht => by
    have h := hD t (by omega)
    rw [h, dg_toNat])
  have eF : fmtL false (fun t => Lib.dg 1500000000000000 (15 - t)) (0 + 2) false 0 = [49, 46, 53, 101, 43, 48, 48] := by decide +kernel
  rw [eF] at hF
  have hbl : Below B w w3 := (hbw.trans ((Below.refl _ w2).drew.trans hb3)).mono (by omega)
  have hmax : max (1 : Int) 0 = 1 := by decide
  clear hD hb3 hB2 hN hS2 hS3 hZ
  go_wp2_with fail
  refine hF.mono ?_
  rintro e w4 ⟨N, rfl, hB4, hb4⟩
  go_wp2
  go_ret
  exact ⟨N, rfl, hB4, hbl.trans hb4⟩

theorem buf_string {B : Nat} {w : World} {q n : Nat} {l : List UInt8} (h : Buf B w q n l) :
    (convert 96 9 (.slice (some ⟨q, 0, none⟩) n 24)).run Tryz.prog w = .ok (.string ⟨l.toArray⟩) w := by
  obtain ⟨hn, hc⟩ := h
  subst hn
  refine run_convert_bytes_back w 96 9 5 _ 24 l Tryz.underlying96 Tryz.underlying5 Tryz.underlying9 ?_
  intro j hj
  refine hc.cells (g := q) rfl j _ ?_
  simp [Lib.byteCells, hj]

theorem make24 (w : World) : (Instr.makeSlice 96 (.int .i64 0) (.int .i64 24)).run Tryz.prog w = .ok (.slice (some ⟨w.heap.size, 0, none⟩) 0 24) (w.alloc (.cells (Array.replicate 24 (.int .u8 0)) 5)) := by
  obtain ⟨i0, hi, hz0, hz1, hz2⟩ := info_size
  have h := run_make w 96 5 i0 (.int .u8 0) Tryz.underlying96 hi hz0 .i64 .i64 0 24 (by omega) (by omega) (by rw [hz2]; decide) (by omega)
  have e : madeCells (Value.int .u8 0).cells ((24 : Int).toNat * 1) = Array.replicate 24 (.int .u8 0) := by kernel_rfl
  rw [hz1, e] at h
  exact h

set_option maxRecDepth 100000 in
theorem format_a (w : World) (T : Tabs w) :
    Calls Tryz.prog 72 #[.float .f64 4609434218613702656, .int .u8 101, .int .i64 (-1), .int .i64 64] w fun e w' => e = .returned (.string ⟨#[49, 46, 53, 101, 43, 48, 48]⟩) ∧ Below w.heap.size w w' := by
  have hm : max (3 : Int) 24 = 24 := by decide
  have hmk := make24
  have hb1 : Below w.heap.size w (w.alloc (.cells (Array.replicate 24 (.int .u8 0)) 5)) := (Below.refl _ w).alloc (Nat.le_refl _) _
  have hF := ftoa_a _ _ _ (T.kept hb1) (Buf.made w)
  go_enter Tryz.func72, Tryz.ntmps72
  go_wp2_with fail
  refine hF.mono ?_
  rintro e w1 ⟨N, rfl, hB, hb⟩
  have hs := buf_string hB
  go_wp2_with fail
  go_ret
  exact ⟨rfl, hb1.trans hb⟩

set_option maxRecDepth 100000 in
theorem formatFloat_a (w : World) (T : Tabs w) :
    Calls Tryz.prog 53 #[.float .f64 4609434218613702656, .int .u8 101, .int .i64 (-1), .int .i64 64] w fun e w' => e = .returned (.string ⟨#[49, 46, 53, 101, 43, 48, 48]⟩) ∧ Below w.heap.size w w' := by
  have hF := format_a w T
  go_enter Tryz.func53, Tryz.ntmps53
  go_wp2_with fail
  refine hF.mono ?_
  rintro e w1 ⟨rfl, hb⟩
  go_wp2_with fail
  go_ret
  exact ⟨rfl, hb⟩

/-- Cut at the one letter e. -/
theorem cut_e (s : ByteArray) (i : Nat) (w : World) (hi : Lib.indexByte s.data.toList 101 = (i : Int)) (hs : i + 1 ≤ s.size) (hz : s.size ≤ 1000) :
    Calls Tryz.prog 52 #[.string s, .string ⟨#[101]⟩] w fun e w' => e = .returned (.tuple #[.string (s.extract 0 i), .string (s.extract (i + 1) s.size), .bool true]) ∧ ∃ n, w' = w.drewN n := by
  have h1 := fun W => Tryz.stringslite_Index_one s 101 W
  rw [hi] at h1
  have h2 : ∀ W, Calls Tryz.prog 71 #[.string s, .string ⟨#[101]⟩] W fun e w' => e = .returned (.tuple #[.string (s.extract 0 i), .string (s.extract (i + 1) s.size), .bool true]) ∧ ∃ n, w' = W.drewN n := fun W => by
    have hge : (0 : Int) ≤ (i : Int) := by omega
    have hge1 : (0 : Int) ≤ (i : Int) + 1 := by omega
    have hle : (i : Int) + 1 ≤ (s.size : Int) := by omega
    have hle' : (i : Int) ≤ (s.size : Int) := by omega
    go_enter Tryz.func71, Tryz.ntmps71
    go_wp2_with (go_at_call 87; refine (h1 _).mono ?_; rintro e w' ⟨rfl, rfl⟩)
    go_region
    go_wp2
    go_ret3
    exact ⟨rfl, 1, rfl⟩
  go_enter Tryz.func52, Tryz.ntmps52
  go_wp2_with (go_at_call 71; refine (h2 _).mono ?_; rintro e w' ⟨rfl, n, rfl⟩)
  go_ret3
  exact ⟨rfl, _, rfl⟩

set_option maxRecDepth 100000 in
theorem decimal_a (w : World) (T : Tabs w) :
    Calls Tryz.prog 32 #[.float .f64 4609434218613702656] w fun e w' => e = .returned (.string ⟨#[49, 46, 53, 101, 48]⟩) ∧ Below w.heap.size w w' := by
  have hF := formatFloat_a w T
  have hC := fun W => cut_e ⟨#[49, 46, 53, 101, 43, 48, 48]⟩ 3 W (by decide +kernel) (by decide +kernel) (by decide +kernel)
  have e1 : ((⟨#[49, 46, 53, 101, 43, 48, 48]⟩ : ByteArray).extract 0 3) = ⟨#[49, 46, 53]⟩ := by decide +kernel
  have e2 : ((⟨#[49, 46, 53, 101, 43, 48, 48]⟩ : ByteArray).extract (3 + 1) (⟨#[49, 46, 53, 101, 43, 48, 48]⟩ : ByteArray).size) = ⟨#[43, 48, 48]⟩ := by decide +kernel
  rw [e1, e2] at hC
  have hA := fun W => Tryz.strconv_Atoi ⟨#[43, 48, 48]⟩ 0 (by decide +kernel) (by decide +kernel) W
  have hI := fun W => Tryz.strconv_Itoa_small 0 (by omega) W
  have e3 : (⟨(Lib.decDigits 0).toArray⟩ : ByteArray) = ⟨#[48]⟩ := by decide +kernel
  rw [e3] at hI
  clear e1 e2 e3
  go_enter Tryz.func32, Tryz.ntmps32
  go_wp2_with fail
  refine hF.mono ?_
  rintro e w1 ⟨rfl, hb⟩
  go_wp2_with fail
  refine (hC _).mono ?_
  rintro e w2 ⟨rfl, n, rfl⟩
  go_wp2_with fail
  refine (hA _).mono ?_
  rintro e w3 ⟨rfl, t, rfl⟩
  go_wp2_with fail
  refine (hI _).mono ?_
  rintro e w4 ⟨rfl, rfl⟩
  go_wp2
  go_ret
  have e4 : ((⟨#[49, 46, 53]⟩ : ByteArray) ++ ⟨#[101]⟩ ++ ⟨#[48]⟩) = ⟨#[49, 46, 53, 101, 48]⟩ := by decide +kernel
  refine ⟨by rw [e4]; rfl, ?_⟩
  have h2 : Below w.heap.size w (w1.drewN n) := below_drewN hb n
  exact h2.trans ((Lib.bytesWorld_below _ _ _).mono h2.size)

theorem isInf_a1 (W : World) : Calls Tryz.prog 31 #[.float .f64 4609434218613702656, .int .i64 1] W fun e w' => e = .returned (.bool false) ∧ w' = W := by
  have hg : (FloatKind.f64.format.order 4609434218613702656 9218868437227405311 == some .gt) = false := by decide +kernel
  go_enter Tryz.func31, Tryz.ntmps31
  go_wp2
  go_ret
  exact ⟨rfl, rfl⟩
theorem isInf_a2 (W : World) : Calls Tryz.prog 31 #[.float .f64 4609434218613702656, .int .i64 (-1)] W fun e w' => e = .returned (.bool false) ∧ w' = W := by
  have hn : ∀ V : World, (Op.unary .neg (.float .f64 4609434218613702656)).run Tryz.prog V = .ok (.float .f64 13832806255468478464) V := fun V => rfl
  have hg : (FloatKind.f64.format.order 13832806255468478464 9218868437227405311 == some .gt) = false := by decide +kernel
  go_enter Tryz.func31, Tryz.ntmps31
  go_wp2
  go_ret
  exact ⟨rfl, rfl⟩

set_option maxRecDepth 100000 in
set_option maxHeartbeats 1000000 in
theorem print_a (w : World) (T : Tabs w) :
    Calls Tryz.prog 12 #[.int .i64 4609434218613702656] w fun e w' => e = .returned (.string ⟨#[49, 46, 53, 101, 48]⟩) ∧ Below w.heap.size w w' := by
  have h18 := floatOf_wd 4609434218613702656
  have e18 : wd 4609434218613702656 = 4609434218613702656 := by kernel_rfl
  rw [e18] at h18
  have h29 := isNaN_any 4609434218613702656
  have e29 : decide (INF < rungOf 4609434218613702656) = false := by decide +kernel
  rw [e29] at h29
  have hi1 := isInf_a1
  have hi2 := isInf_a2
  have hD := decimal_a w T
  clear e18 e29 T
  go_enter Tryz.func12, Tryz.ntmps12
  go_wp2_with fail
  refine (h18 _).mono ?_
  rintro e w' ⟨rfl, rfl⟩
  go_wp2_with (go_at_call 29; refine (h29 _).mono ?_; rintro e w' ⟨rfl, rfl⟩)
  refine (hi1 _).mono ?_
  rintro e w' ⟨rfl, rfl⟩
  go_wp2_with fail
  refine (hi2 _).mono ?_
  rintro e w' ⟨rfl, rfl⟩
  go_wp2_with fail
  refine hD.mono ?_
  rintro e w' ⟨rfl, hb⟩
  go_wp2
  go_ret
  exact ⟨rfl, hb⟩
end Go.Proofs.YtadlppllbebkdaaGreatDoor

/- The calls whose answers the document fixes. -/
namespace Go.Proofs.YtadlppllbebkdaaGreatDoor
open Go.RowKit

set_option maxRecDepth 100000 in
set_option maxHeartbeats 1000000 in
theorem parse_a (w : World) (T : Tabs w) : Calls Tryz.prog 14 #[.string ⟨#[49, 46, 53, 101, 48]⟩] w fun e w' => e = .returned (.tuple #[.int .i64 4609434218613702656, .int .i64 0]) ∧ Below w.heap.size w w' := by
  have hG := guess_a w T
  have hP := fun W (B : Below w.heap.size w W) => print_a W (T.kept B)
  clear T
  go_enter Tryz.func14, Tryz.ntmps14
  go_wp2_with fail
  refine hG.mono ?_
  rintro e w1 ⟨rfl, b1⟩
  have hP1 := hP w1 b1
  go_wp2_with (go_at_call 12; refine hP1.mono ?_; rintro e w2 ⟨rfl, b2⟩)
  go_ret2
  exact ⟨rfl, b1.trans (b2.mono b1.size)⟩

set_option maxRecDepth 100000 in
set_option maxHeartbeats 1000000 in
theorem parse_b (w : World) (T : Tabs w) : Calls Tryz.prog 14 #[.string ⟨#[49, 46, 53, 48, 101, 48]⟩] w fun e w' => e = .returned (.tuple #[.int .i64 0, .int .i64 4]) ∧ Below w.heap.size w w' := by
  have hG := guess_b w T
  have hP := fun W (B : Below w.heap.size w W) => print_a W (T.kept B)
  clear T
  go_enter Tryz.func14, Tryz.ntmps14
  go_wp2_with fail
  refine hG.mono ?_
  rintro e w1 ⟨rfl, b1⟩
  have hP1 := hP w1 b1
  go_wp2_with (go_at_call 12; refine hP1.mono ?_; rintro e w2 ⟨rfl, b2⟩)
  go_ret2
  exact ⟨rfl, b1.trans (b2.mono b1.size)⟩

set_option maxRecDepth 100000 in
set_option maxHeartbeats 2000000 in
theorem fixed_any (w : World) (T : Tabs w) : Calls Tryz.prog 9 #[] w fun e w' => e = .returned (.bool true) ∧ Below w.heap.size w w' := by
  have h1 := do_fadd 4607182418800017408 4607182418800017408 w
  have e1 : wrap64 (fadd (wd 4607182418800017408) (wd 4607182418800017408) : Nat) = 4611686018427387904 := by kernel_rfl
  rw [e1] at h1
  have h2 := do_fdiv 0 0
  have e2 : wrap64 (fdiv (wd 0) (wd 0) : Nat) = 9221120237041090560 := by kernel_rfl
  rw [e2] at h2
  have h3 := fun W => do_none 3 1 1 W (by omega)
  have hA := fun W (B : Below w.heap.size w W) => parse_a W (T.kept B)
  have hB := fun W (B : Below w.heap.size w W) => parse_b W (T.kept B)
  have hP := fun W (B : Below w.heap.size w W) => print_a W (T.kept B)
  clear e1 e2 T
  go_enter Tryz.func9, Tryz.ntmps9
  go_wp2_with fail
  refine h1.mono ?_
  rintro e w1 ⟨rfl, b1⟩
  go_wp2_with fail
  refine (h2 _).mono ?_
  rintro e w2 ⟨rfl, b2⟩
  replace b1 := b1.trans (b2.mono b1.size); clear b2
  go_wp2_with fail
  refine (h3 _).mono ?_
  rintro e w3 ⟨rfl, b2⟩
  replace b1 := b1.trans (b2.mono b1.size); clear b2
  go_wp2_with fail
  refine (hA _ b1).mono ?_
  rintro e w4 ⟨rfl, b2⟩
  replace b1 := b1.trans (b2.mono b1.size); clear b2
  go_wp2_with fail
  refine (hB _ b1).mono ?_
  rintro e w5 ⟨rfl, b2⟩
  replace b1 := b1.trans (b2.mono b1.size); clear b2
  have hP1 := hP w5 b1
  go_wp2_with (go_at_call 12; refine hP1.mono ?_; rintro e w6 ⟨rfl, b2⟩)
  go_ret
  exact ⟨rfl, b1.trans (b2.mono b1.size)⟩

set_option maxRecDepth 100000 in
theorem fltNames_walk (w : World) (T : Tabs w) : Calls Tryz.prog 3 #[] w fun e w' => e = .returned (.bool true) ∧ Below w.heap.size w w' := by
  have h9 := fixed_any w T
  go_enter Tryz.func3, Tryz.ntmps3
  go_wp2_with (go_at_call 9; refine h9.mono ?_; rintro e w6 ⟨rfl, b2⟩)
  go_ret
  exact ⟨rfl, b2⟩
end Go.Proofs.YtadlppllbebkdaaGreatDoor
