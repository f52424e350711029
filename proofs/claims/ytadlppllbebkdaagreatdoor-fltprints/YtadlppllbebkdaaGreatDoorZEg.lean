/- What is printed is read as just those bits, and the other way round. -/
import Derived.Test.YtadlppllbebkdaaGreatDoorZEf
import Derived.Test.YtadlppllbebkdaaGreatDoorZWc
namespace Go.Proofs.YtadlppllbebkdaaGreatDoor
open Go.RowKit

theorem wd_back (b : Int) (h1 : -9223372036854775808 ≤ b) (h2 : b ≤ 9223372036854775807) : wrap64 (wd b : Int) = b := by
  unfold wd wrap64
  rw [IntKind.wrap_u64]
  omega

set_option maxRecDepth 100000 in
set_option maxHeartbeats 2000000 in
theorem fltReturns_walk (a b : Int) (s : ByteArray) (ha : -9223372036854775808 ≤ a ∧ a ≤ 9223372036854775807) (hb : -9223372036854775808 ≤ b ∧ b ≤ 9223372036854775807) (hs : s.size ≤ 140737488355328) (w : World) (A : All w) :
    Calls Tryz.prog 6 #[.int .i64 a, .int .i64 b, .string s] w fun e w' => e = .returned (.bool true) ∧ Below w.heap.size w w' := by
  have hPa := print_any a w A.tabs A.rowz A.zer
  have hPb := fun W (AW : All W) => print_any b W AW.tabs AW.rowz AW.zer
  have hRa := fun W (AW : All W) => parse_right' atof_right (wd a) (wd_lt a) W AW
  rw [wd_back a ha.1 ha.2] at hRa
  have hT := fun W (AW : All W) => parse_total atof_total s hs W AW
  have la := print_len (wd a) (wd_lt a)
  obtain ⟨sa, hsa⟩ : ∃ s : ByteArray, Hid (s = ⟨(printL (wd a)).toArray⟩) := ⟨_, Lib.hid rfl⟩
  obtain ⟨sb, hsb⟩ : ∃ s : ByteArray, Hid (s = ⟨(printL (wd b)).toArray⟩) := ⟨_, Lib.hid rfl⟩
  have ela : sa.toList = printL (wd a) := by rw [hsa.out, ba_toList]
  have elb : sb.toList = printL (wd b) := by rw [hsb.out, ba_toList]
  have sza : sa.size ≤ 25 := by
    have e : sa.size = (printL (wd a)).length := by rw [hsa.out]; show (printL (wd a)).toArray.size = _; simp
    omega
  rw [← hsa.out] at hPa hRa
  rw [← hsb.out] at hPb
  have d25 : decide ((25 : Int) < (sa.size : Int)) = false := by simp; omega
  have d25' : (sa.size : Int) ≤ 25 := by omega
  have key : ∃ t : Bool, (sa.toList == sb.toList) = t ∧ (a == b) = t := by
    by_cases h : a = b
    · refine ⟨true, ?_, by simpa using h⟩
      rw [ela, elb, h]; simp
    · refine ⟨false, ?_, by simpa using h⟩
      rw [ela, elb]
      simp only [beq_eq_false_iff_ne, ne_eq]
      intro hp
      have e := print_inj (wd_lt a) (wd_lt b) hp
      have h1 := wd_back a ha.1 ha.2
      have h2 := wd_back b hb.1 hb.2
      rw [e, h2] at h1
      exact h h1.symm
  obtain ⟨t, d1, d2⟩ := key
  have HA := Lib.hid A
  have esd : s.toList = s.data.toList := Lib.toList_data s
  clear ela elb hsa hsb la A sza
  go_enter Tryz.func6, Tryz.ntmps6
  go_wp2_with fail
  refine hPa.mono ?_
  rintro e w1 ⟨rfl, b1⟩
  go_wp2_with fail
  refine (hPb w1 (HA.out.kept b1)).mono ?_
  rintro e w2 ⟨rfl, b2⟩
  replace b1 := b1.trans (b2.mono b1.size)
  clear b2
  go_wp2_with fail
  refine (hRa w2 (HA.out.kept b1)).mono ?_
  rintro e w3 ⟨rfl, b2⟩
  replace b1 := b1.trans (b2.mono b1.size)
  clear b2
  go_wp2_with fail
  refine (hT w3 (HA.out.kept b1)).mono ?_
  rintro e w4 ⟨y, k, hyk, rfl, b2⟩
  replace b1 := b1.trans (b2.mono b1.size)
  have hFx := fixed_any w4 (HA.out.kept b1).tabs
  clear b2 hPa hPb hRa hT
  rcases hyk with ⟨rfl, rfl⟩ | ⟨y1, y2, rfl, hy⟩
  · cases t <;>
    · go_wp2_with fail
      refine hFx.mono ?_
      rintro e w5 ⟨rfl, b2⟩
      go_wp2_with fail
      go_ret
      exact ⟨rfl, b1.trans (b2.mono b1.size)⟩
  · have hPy := print_any y w4 (HA.out.kept b1).tabs (HA.out.kept b1).rowz (HA.out.kept b1).zer
    have hFy := fun W (AW : All W) => fixed_any W AW.tabs
    obtain ⟨sy, hsy⟩ : ∃ s : ByteArray, Hid (s = ⟨(printL (wd y)).toArray⟩) := ⟨_, Lib.hid rfl⟩
    have ely : (sy.toList == s.toList) = true := by rw [hsy.out, ba_toList, hy, esd]; simp
    rw [← hsy.out] at hPy
    clear hsy hy esd hFx
    cases t <;>
    · go_wp2_with fail
      refine hPy.mono ?_
      rintro e w5 ⟨rfl, b2⟩
      replace b1 := b1.trans (b2.mono b1.size)
      go_wp2_with fail
      refine (hFy w5 (HA.out.kept b1)).mono ?_
      rintro e w6 ⟨rfl, b3⟩
      go_wp2_with fail
      go_ret
      exact ⟨rfl, b1.trans (b3.mono b1.size)⟩
end Go.Proofs.YtadlppllbebkdaaGreatDoor
