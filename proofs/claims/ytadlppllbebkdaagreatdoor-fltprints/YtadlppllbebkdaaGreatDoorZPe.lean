/- What reads back as floats lies in the floats' order. -/
import Derived.Test.YtadlppllbebkdaaGreatDoorZPd
namespace Go.Proofs.YtadlppllbebkdaaGreatDoor

theorem V_next (r : Nat) : V (r + 1) = V r + 2 ^ expOf r := by
  obtain ⟨a, b, c⟩ := rung_pack r
  have h : r + 1 = expOf r * 2 ^ 52 + (magOf r + 1) := by omega
  rw [h, V_pack _ _ (by omega) (by omega)]
  unfold V
  rw [Nat.add_mul, Nat.one_mul]

theorem low_above {y : Nat} (h : 1 ≤ y) (hy : y < INF) : 4 * V (y - 1) < cl (magOf y) (skewOf (magOf y) ((expOf y : Int) - 1074)) * 2 ^ expOf y := by
  obtain ⟨a, b, c⟩ := rung_pack y
  obtain ⟨m1, m2, _, _⟩ := mag_facts h hy
  have e52 : (2 : Nat) ^ 52 = 4503599627370496 := by decide
  have e53 : (2 : Nat) ^ 53 = 9007199254740992 := by decide
  have hp := two_pos (expOf y)
  by_cases hk : magOf y = 4503599627370496 ∧ 0 < expOf y
  · have hs : skewOf (magOf y) ((expOf y : Int) - 1074) = true := by
      unfold skewOf
      simp [hk.1]
      omega
    obtain ⟨e, he⟩ : ∃ e, expOf y = e + 1 := ⟨expOf y - 1, by omega⟩
    have hy1 : y - 1 = e * 2 ^ 52 + (2 ^ 53 - 1) := by rw [he] at a; omega
    rw [hs, hy1, V_pack _ _ (by omega) (by omega), he, hk.1]
    unfold cl
    show 4 * ((2 ^ 53 - 1) * 2 ^ e) < (4 * 4503599627370496 - 1) * 2 ^ (e + 1)
    rw [e53, show 2 ^ (e + 1) = 2 ^ e * 2 from Nat.pow_succ ..]
    have := two_pos e
    omega
  · have hy1 : y - 1 = expOf y * 2 ^ 52 + (magOf y - 1) := by omega
    rw [hy1, V_pack _ _ (by omega) (by omega)]
    have h2 : 4 * magOf y - 2 ≤ cl (magOf y) (skewOf (magOf y) ((expOf y : Int) - 1074)) := by
      unfold cl
      cases skewOf (magOf y) ((expOf y : Int) - 1074)
      · exact Nat.le_refl _
      · show _ ≤ 4 * magOf y - 1; omega
    have h3 := Nat.mul_le_mul_right (2 ^ expOf y) h2
    have h4 : 4 * ((magOf y - 1) * 2 ^ expOf y) + 2 * 2 ^ expOf y = (4 * magOf y - 2) * 2 ^ expOf y := by
      rw [← Nat.mul_assoc, ← Nat.add_mul]; congr 1; omega
    omega
theorem cl_below (y : Nat) (h : 1 ≤ magOf y) : cl (magOf y) (skewOf (magOf y) ((expOf y : Int) - 1074)) * 2 ^ expOf y < 4 * V y := by
  have h2 : cl (magOf y) (skewOf (magOf y) ((expOf y : Int) - 1074)) < 4 * magOf y := by
    unfold cl
    cases skewOf (magOf y) ((expOf y : Int) - 1074)
    · show 4 * magOf y - 2 < _; omega
    · show 4 * magOf y - 1 < _; omega
  unfold V
  rw [← Nat.mul_assoc]
  exact Nat.mul_lt_mul_of_pos_right h2 (two_pos _)
theorem up_below (x : Nat) : 4 * V x < (4 * magOf x + 2) * 2 ^ expOf x ∧ (4 * magOf x + 2) * 2 ^ expOf x < 4 * V (x + 1) := by
  have hp := two_pos (expOf x)
  rw [V_next]
  have e : (4 * magOf x + 2) * 2 ^ expOf x = 4 * V x + 2 * 2 ^ expOf x := by
    unfold V
    rw [Nat.add_mul, Nat.mul_assoc]
  omega

/-- All on one scale. -/
theorem le2_one (a b e : Nat) (q : Int) : (le2 a ((e : Int) - 1074) b q ↔ a * 2 ^ e * 10 ^ (-q).toNat ≤ b * 10 ^ q.toNat * 2 ^ unit) ∧ (lt2 a ((e : Int) - 1074) b q ↔ a * 2 ^ e * 10 ^ (-q).toNat < b * 10 ^ q.toNat * 2 ^ unit) ∧ (ge2 a ((e : Int) - 1074) b q ↔ b * 10 ^ q.toNat * 2 ^ unit ≤ a * 2 ^ e * 10 ^ (-q).toNat) ∧ (gt2 a ((e : Int) - 1074) b q ↔ b * 10 ^ q.toNat * 2 ^ unit < a * 2 ^ e * 10 ^ (-q).toNat) := by
  obtain ⟨t, ht⟩ : ∃ t, (-((e : Int) - 1074)).toNat + t = 1074 := ⟨1074 - (-((e : Int) - 1074)).toNat, by omega⟩
  have ek : e = ((e : Int) - 1074).toNat + t := by omega
  have hu : unit = (-((e : Int) - 1074)).toNat + t := by unfold unit; omega
  have h1 : a * 2 ^ ((e : Int) - 1074).toNat * 10 ^ (-q).toNat * 2 ^ t = a * 2 ^ e * 10 ^ (-q).toNat * 1 := by
    have : 2 ^ e = 2 ^ ((e : Int) - 1074).toNat * 2 ^ t := by rw [← Nat.pow_add, ← ek]
    rw [this]; generalize 2 ^ ((e : Int) - 1074).toNat = A; generalize 2 ^ t = B; generalize 10 ^ (-q).toNat = C; grind
  have h2 : b * 10 ^ q.toNat * 2 ^ (-((e : Int) - 1074)).toNat * 2 ^ t = b * 10 ^ q.toNat * 2 ^ unit * 1 := by
    rw [hu, Nat.pow_add]; generalize 2 ^ (-((e : Int) - 1074)).toNat = A; generalize 2 ^ t = B; generalize 10 ^ q.toNat = C; grind
  unfold le2 lt2 ge2 gt2
  exact ⟨cross_le (by decide) (two_pos t) h1 h2, cross_lt (by decide) (two_pos t) h1 h2, cross_le (by decide) (two_pos t) h2 h1, cross_lt (by decide) (two_pos t) h2 h1⟩

theorem reads_ends {m : Nat} {k : Int} {c : Nat} {s : Int} (h : Reads m k (skewOf m k) c s) : le2 (cl m (skewOf m k)) k (4 * c) s ∧ ge2 (4 * m + 2) k (4 * c) s := by
  unfold Reads at h
  split at h
  · exact h
  · exact ⟨Nat.le_of_lt h.1, Nat.le_of_lt h.2⟩

/-- It reads back as one above: it is not below this one. -/
theorem not_below {x y : Nat} (hx : 1 ≤ x) (hxy : x < y) (hy : y < INF) {c : Nat} {s : Int} (h : Reads (magOf y) ((expOf y : Int) - 1074) (skewOf (magOf y) ((expOf y : Int) - 1074)) c s) : sideN (magOf x) ((expOf x : Int) - 1074) c s ≠ -1 := by
  intro hs
  have h1 := (side_low _ _ _ _).1 hs
  obtain ⟨g1, _⟩ := reads_ends h
  rw [(le2_one _ _ _ _).1] at g1
  obtain ⟨m1, _⟩ := mag_facts hx (by omega)
  have a1 := cl_below x m1
  have a2 := low_above (y := y) (by omega) hy
  have a3 := V_le x (y - 1) (by omega)
  have a4 : cl (magOf x) (skewOf (magOf x) ((expOf x : Int) - 1074)) * 2 ^ expOf x < cl (magOf y) (skewOf (magOf y) ((expOf y : Int) - 1074)) * 2 ^ expOf y := by omega
  have a5 := Nat.mul_lt_mul_of_pos_right a4 (ten_pos (-s).toNat)
  have a6 := Nat.lt_of_lt_of_le a5 g1
  apply h1
  split
  · exact (le2_one _ _ _ _).1.2 (Nat.le_of_lt a6)
  · exact (le2_one _ _ _ _).2.1.2 a6

/-- It reads back as one below: it is not above this one. -/
theorem not_above {x y : Nat} (hxy : x < y) {c : Nat} {s : Int} (h : Reads (magOf x) ((expOf x : Int) - 1074) (skewOf (magOf x) ((expOf x : Int) - 1074)) c s) : sideN (magOf y) ((expOf y : Int) - 1074) c s ≠ 1 := by
  intro hs
  have h1 := ((side_high _ _ _ _).1 hs).2
  obtain ⟨_, g1⟩ := reads_ends h
  rw [(le2_one _ _ _ _).2.2.1] at g1
  have a1 := (up_below x).2
  have a2 := (up_below y).1
  have a3 := V_le (x + 1) y (by omega)
  have a4 : (4 * magOf x + 2) * 2 ^ expOf x < (4 * magOf y + 2) * 2 ^ expOf y := by omega
  have a5 := Nat.mul_lt_mul_of_pos_right a4 (ten_pos (-s).toNat)
  have a6 := Nat.lt_of_le_of_lt g1 a5
  apply h1
  split
  · exact (le2_one _ _ _ _).2.2.1.2 (Nat.le_of_lt a6)
  · exact (le2_one _ _ _ _).2.2.2.2 a6

/-- One float alone. -/
theorem reads_one {x y : Nat} (hx : 1 ≤ x) (fx : x < INF) (hy : 1 ≤ y) (fy : y < INF) {c : Nat} {s : Int} (c1 : 1 ≤ c) (c2 : c < 100000000000000000) (s1 : -345 ≤ s) (s2 : s ≤ 310) (h1 : Reads (magOf x) ((expOf x : Int) - 1074) (skewOf (magOf x) ((expOf x : Int) - 1074)) c s) (h2 : Reads (magOf y) ((expOf y : Int) - 1074) (skewOf (magOf y) ((expOf y : Int) - 1074)) c s) : x = y := by
  obtain ⟨i, hi⟩ : ∃ i : Nat, s = (i : Int) - 348 := ⟨(s + 348).toNat, by omega⟩
  rw [hi] at h1 h2
  have a := parse_right (flo_of (by omega) fx) c1 c2 (by omega) h1
  have b := parse_right (flo_of (by omega) fy) c1 c2 (by omega) h2
  have key : magOf x = magOf y ∧ ((expOf x : Int) - 1074) = ((expOf y : Int) - 1074) := by
    rcases a.2.2 with ⟨a1, a2, a3⟩ | ⟨a1, a2, a3⟩ <;> rcases b.2.2 with ⟨b1, b2, b3⟩ | ⟨b1, b2, b3⟩
    · exact ⟨by rw [← a2, ← b2], by omega⟩
    · omega
    · omega
    · exact ⟨by rw [← a2, ← b2], by omega⟩
  rw [(rung_pack x).1, (rung_pack y).1, key.1, show expOf x = expOf y by have := key.2; omega]
end Go.Proofs.YtadlppllbebkdaaGreatDoor

/- The document's side: nearest. -/
namespace Go.Proofs.YtadlppllbebkdaaGreatDoor
open Go.RowKit

/-- The float as which it reads back. -/
def Rds (x c : Nat) (s : Int) : Prop := 1 ≤ x ∧ x < INF ∧ Reads (magOf x) ((expOf x : Int) - 1074) (skewOf (magOf x) ((expOf x : Int) - 1074)) c s
/-- Whatever it reads back as is this. -/
def Only (c : Nat) (s : Int) (r : Nat) : Prop := c < 100000000000000000 → -345 ≤ s → s ≤ 310 → ∀ x, Rds x c s → r = x
def Within (c : Nat) (s : Int) (lo hi : Nat) : Prop := c < 100000000000000000 → -345 ≤ s → s ≤ 310 → ∀ x, Rds x c s → lo ≤ x ∧ x ≤ hi

set_option maxRecDepth 100000 in
set_option maxHeartbeats 2000000 in
theorem nearest_any (c : Nat) (s : Int) (hc1 : 1 ≤ c) (hc : c < 18446744073709551616) (s1 : -1100 ≤ s) (s2 : s ≤ 1100) (w : World) :
    Calls Tryz.prog 38 #[.int .u64 c, .int .i64 s] w fun e w' => ∃ r : Nat, e = .returned (.int .u64 r) ∧ r < INF ∧ Only c s r ∧ Below w.heap.size w w' := by
  have hI : INF = 9218868437227405312 := rfl
  have hSide := fun r a b W => Side_any r c s a b hc s1 s2 W
  have W0 : Hid (Within c s 1 9218868437227405311) := Lib.hid (fun _ _ _ x hx => ⟨hx.1, by have := hx.2.1; omega⟩)
  go_enter Tryz.func38, Tryz.ntmps38
  go_upto_block 0 with fail
  go_cut [5, 6, 7, 8] from 9 to 29 (fun s5 _ _ _ wy => ∃ lo : Nat, s5 = .int .u64 lo ∧ 1 ≤ lo ∧ lo < 9218868437227405312 ∧ Hid (Within c s lo lo ∧ Below w.heap.size w wy))
  case first =>
    go_wp2_with fail
    go_loopw [5, 6, 7, 8] (fun s5 s6 _ _ wr => ∃ lo hi : Nat, s5 = .int .u64 lo ∧ s6 = .int .u64 hi ∧ 1 ≤ lo ∧ lo ≤ hi ∧ hi ≤ 9218868437227405311 ∧ Hid (Within c s lo hi ∧ Below w.heap.size w wr)) (fun s5 s6 _ _ _ => (intOf s6 - intOf s5).toNat)
    case atStart => exact ⟨1, 9218868437227405311, rfl, rfl, by omega, by omega, by omega, Lib.hid ⟨W0.out, Below.refl _ _⟩⟩
    case round =>
      clear W0
      obtain ⟨lo, hi, rfl, rfl, l1, l2, l3, HW⟩ := hrel
      by_cases hlt : lo < hi
      · have hlt' : (lo : Int) < (hi : Int) := by omega
        obtain ⟨g, hg⟩ : ∃ g, Hid ((hi - lo) / 2 = g) := ⟨_, Lib.hid rfl⟩
        have eg : ((hi : Int) - (lo : Int)) / 2 = (g : Int) := by have := hg.out; omega
        obtain ⟨m, hm⟩ : ∃ m, Hid (lo + g = m) := ⟨_, Lib.hid rfl⟩
        have em : (lo : Int) + (g : Int) = (m : Int) := by have := hm.out; omega
        have mb : lo ≤ m ∧ m < hi := by have := hm.out; have := hg.out; omega
        obtain ⟨mb1, mb2⟩ := mb
        have m1 : 1 ≤ m := by omega
        have mI : m < INF := by omega
        have hS := hSide m m1 mI wr
        have hi3 := side_is (magOf m) ((expOf m : Int) - 1074) c s
        have O0 : Hid (sideN (magOf m) ((expOf m : Int) - 1074) c s = 0 → Only c s m) := Lib.hid (fun h0 c2 a1 a2 x hx => reads_one m1 mI hx.1 hx.2.1 hc1 c2 a1 a2 ((side_zero _ _ _ _).1 h0) hx.2.2)
        have O1 : Hid (sideN (magOf m) ((expOf m : Int) - 1074) c s = -1 → Within c s lo m) := Lib.hid (fun h0 c2 a1 a2 x hx => ⟨(HW.out.1 c2 a1 a2 x hx).1, by
          rcases Nat.lt_or_ge m x with hcx | hcx
          · exact absurd h0 (not_below m1 hcx hx.2.1 hx.2.2)
          · exact hcx⟩)
        have O2 : Hid (sideN (magOf m) ((expOf m : Int) - 1074) c s = 1 → Within c s (m + 1) hi) := Lib.hid (fun h0 c2 a1 a2 x hx => ⟨by
          rcases Nat.lt_trichotomy x m with hcx | hcx | hcx
          · exact absurd h0 (not_above hcx hx.2.2)
          · exfalso
            subst hcx
            have := (side_zero _ _ _ _).2 hx.2.2
            omega
          · omega, (HW.out.1 c2 a1 a2 x hx).2⟩)
        obtain ⟨a, ha⟩ : ∃ a, Hid (sideN (magOf m) ((expOf m : Int) - 1074) c s = a) := ⟨_, Lib.hid rfl⟩
        rw [ha.out] at hS hi3 O0 O1 O2
        have BW := Lib.hid HW.out.2
        clear ha hSide hg hm HW
        go_wp2_with fail
        refine hS.mono ?_
        rintro e w3 ⟨rfl, b3⟩
        have B3 := Lib.hid (BW.out.trans (b3.mono BW.out.size))
        clear b3 hS BW
        rcases hi3 with rfl | rfl | rfl
        · have HW' : Hid (Within c s lo m ∧ Below w.heap.size w w3) := Lib.hid ⟨O1.out rfl, B3.out⟩
          clear O0 O1 O2 B3
          go_wp2_with fail
          exact ⟨⟨lo, m, rfl, rfl, l1, mb1, by omega, HW'⟩, by simp [intOf] <;> omega⟩
        · have HO := Lib.hid (O0.out rfl)
          clear O0 O1 O2
          go_wp2_with fail
          go_ret
          exact ⟨m, rfl, mI, HO.out, B3.out⟩
        · have HW' : Hid (Within c s (m + 1) hi ∧ Below w.heap.size w w3) := Lib.hid ⟨O2.out rfl, B3.out⟩
          clear O0 O1 O2 B3
          go_wp2_with fail
          exact ⟨⟨m + 1, hi, rfl, rfl, by omega, by omega, by omega, HW'⟩, by simp [intOf] <;> omega⟩
      · have hlt' : decide ((lo : Int) < (hi : Int)) = false := by simp; omega
        have hlt'' : (hi : Int) ≤ (lo : Int) := by omega
        have e : hi = lo := by omega
        subst e
        clear hlt
        go_wp2_with fail
        go_meet
        exact ⟨hi, rfl, l1, by omega, HW⟩
  case rest =>
    clear W0
    obtain ⟨lo, rfl, l1, l2, HW⟩ := hcut
    have lI : lo < INF := by omega
    have hS := hSide lo l1 lI wc
    have hi3 := side_is (magOf lo) ((expOf lo : Int) - 1074) c s
    have O0 : Hid (sideN (magOf lo) ((expOf lo : Int) - 1074) c s = 0 → Only c s lo) := Lib.hid (fun h0 c2 a1 a2 x hx => reads_one l1 lI hx.1 hx.2.1 hc1 c2 a1 a2 ((side_zero _ _ _ _).1 h0) hx.2.2)
    have O1 : Hid (sideN (magOf lo) ((expOf lo : Int) - 1074) c s ≠ 0 → Only c s 0) := Lib.hid (fun h0 c2 a1 a2 x hx => by
      exfalso
      have := HW.out.1 c2 a1 a2 x hx
      obtain rfl : x = lo := by omega
      exact h0 ((side_zero _ _ _ _).2 hx.2.2))
    obtain ⟨a, ha⟩ : ∃ a, Hid (sideN (magOf lo) ((expOf lo : Int) - 1074) c s = a) := ⟨_, Lib.hid rfl⟩
    rw [ha.out] at hS hi3 O0 O1
    have BW := Lib.hid HW.out.2
    clear ha hSide HW
    go_wp2_with fail
    refine hS.mono ?_
    rintro e w3 ⟨rfl, b3⟩
    have B3 := Lib.hid (BW.out.trans (b3.mono BW.out.size))
    clear b3 hS BW
    rcases hi3 with rfl | rfl | rfl
    · have HO := Lib.hid (O1.out (by omega))
      clear O0 O1
      go_wp2_with fail
      go_ret
      exact ⟨0, rfl, by omega, HO.out, B3.out⟩
    · have HO := Lib.hid (O0.out rfl)
      clear O0 O1
      go_wp2_with fail
      go_ret
      exact ⟨lo, rfl, lI, HO.out, B3.out⟩
    · have HO := Lib.hid (O1.out (by omega))
      clear O0 O1
      go_wp2_with fail
      go_ret
      exact ⟨0, rfl, by omega, HO.out, B3.out⟩
end Go.Proofs.YtadlppllbebkdaaGreatDoor

/- The document's side: value, as plain functions. -/
namespace Go.Proofs.YtadlppllbebkdaaGreatDoor
open Go.RowKit

/-- The exponent's digits. -/
def v2 : List UInt8 → Nat → Option Nat
  | [], e => some e
  | c :: l, e => if c.toNat < 48 ∨ 57 < c.toNat then none else v2 l (10 * e + (c.toNat - 48))
def v3 (c : Nat) (s : Int) (mi : Bool) (L : List UInt8) (k : Nat) : Option (Nat × Int) :=
  if L.length ≤ k ∨ 3 < L.length - k ∨ c = 0 then none else (v2 (L.drop k) 0).map fun e => (c, s + (if mi then -(e : Int) else (e : Int)))
/-- Behind the e. -/
def vE (c : Nat) (s : Int) (L : List UInt8) (i : Nat) : Option (Nat × Int) :=
  match L.drop i with
  | [] => v3 c s false L i
  | ch :: _ => if ch.toNat = 45 then v3 c s true L (i + 1) else v3 c s false L i
/-- The digits. -/
def v1 (L : List UInt8) : List UInt8 → Nat → Nat → Int → Option (Nat × Int)
  | [], i, c, s => vE c s L (i + 1)
  | ch :: l, i, c, s =>
    if ch.toNat = 101 then vE c s L (i + 1)
    else if i = 1 ∧ ch.toNat = 46 then v1 L l (i + 1) c s
    else if ch.toNat < 48 ∨ 57 < ch.toNat ∨ 18 < i then none
    else v1 L l (i + 1) (10 * c + (ch.toNat - 48)) (if 1 < i then s - 1 else s)

/-- A numeral's value, and bounds. -/
theorem v2_digits : ∀ (l : List UInt8) (e : Nat), (∀ c, c ∈ l → IsDig c) → v2 l e = some (vD e l)
  | [], e, _ => rfl
  | c :: l, e, h => by
    obtain ⟨h1, h2⟩ := h c (by simp)
    rw [v2, if_neg (by omega), v2_digits l _ (fun d hd => h d (by simp [hd])), vD_cons, Nat.mul_comm 10]

theorem v1_digits (L rest : List UInt8) : ∀ (ds : List UInt8) (i c : Nat) (s : Int), (∀ d, d ∈ ds → IsDig d) → 2 ≤ i → i + ds.length ≤ 19 →
    v1 L (ds ++ rest) i c s = v1 L rest (i + ds.length) (vD c ds) (s - ds.length)
  | [], i, c, s, _, _, _ => by simp [vD]
  | d :: ds, i, c, s, h, h2, h19 => by
    obtain ⟨a1, a2⟩ := h d (by simp)
    simp only [List.length_cons] at h19
    rw [List.cons_append, v1, if_neg (by omega), if_neg (by omega), if_neg (by omega), if_pos (by omega), v1_digits L rest ds (i + 1) _ _ (fun e he => h e (by simp [he])) (by omega) (by omega), vD_cons, Nat.mul_comm 10, List.length_cons]
    rw [show i + 1 + ds.length = i + (ds.length + 1) by omega, show s - 1 - (ds.length : Int) = s - ((ds.length + 1 : Nat) : Int) by push_cast; omega]

/-- What stands behind the e. -/
theorem vE_ex (P : List UInt8) (c : Nat) (s : Int) (hc : c ≠ 0) (mi : Bool) (d : UInt8) (xs : List UInt8) (hd : ∀ e, e ∈ d :: xs → IsDig e) (hl : (d :: xs).length ≤ 3) : vE c s (P ++ exL mi (d :: xs)) P.length = some (c, s + (if mi then -(vD 0 (d :: xs) : Int) else (vD 0 (d :: xs) : Int))) := by
  obtain ⟨h1, h2⟩ := hd d (by simp)
  have hlen : (d :: xs).length = xs.length + 1 := rfl
  cases mi with
  | true =>
    have e1 : (P ++ exL true (d :: xs)).drop P.length = 45 :: d :: xs := by rw [List.drop_left]; rfl
    have e2 : (P ++ exL true (d :: xs)).drop (P.length + 1) = d :: xs := by rw [← List.drop_drop, e1]; rfl
    have e3 : (P ++ exL true (d :: xs)).length = P.length + 1 + (xs.length + 1) := by simp [exL]; omega
    unfold vE
    rw [e1]
    simp only
    rw [if_pos (by decide)]
    unfold v3
    rw [e3, if_neg (by omega), e2, v2_digits _ _ hd]
    rfl
  | false =>
    have e1 : (P ++ exL false (d :: xs)).drop P.length = d :: xs := by rw [List.drop_left]; rfl
    have e3 : (P ++ exL false (d :: xs)).length = P.length + (xs.length + 1) := by simp [exL]
    unfold vE
    rw [e1]
    simp only
    rw [if_neg (by omega)]
    unfold v3
    rw [e3, if_neg (by omega), e1, v2_digits _ _ hd]
    rfl

theorem v1_txt (d : UInt8) (hd : IsDig d) (ds : List UInt8) (hds : ∀ c, c ∈ ds → IsDig c) (hl : ds.length ≤ 16) (hc : vD 0 (d :: ds) ≠ 0) (mi : Bool) (c : UInt8) (xs : List UInt8) (hx : ∀ e, e ∈ c :: xs → IsDig e) (hxl : (c :: xs).length ≤ 3) (L : List UInt8) (hL : L = d :: ((if ds = [] then [] else 46 :: ds) ++ 101 :: exL mi (c :: xs))) :
    v1 L L 0 0 0 = some (vD 0 (d :: ds), -(ds.length : Int) + (if mi then -(vD 0 (c :: xs) : Int) else (vD 0 (c :: xs) : Int))) := by
  obtain ⟨a1, a2⟩ := hd
  have ev : vD 0 [d] = 10 * 0 + (d.toNat - 48) := by rw [vD_cons]; show 0 * 10 + _ = _; omega
  by_cases hn : ds = []
  · subst hn
    rw [if_pos rfl, List.nil_append] at hL
    have e0 : L = (d :: [101]) ++ exL mi (c :: xs) := by rw [hL]; rfl
    have h1 : v1 L (d :: 101 :: exL mi (c :: xs)) 0 0 0 = v1 L (101 :: exL mi (c :: xs)) 1 (10 * 0 + (d.toNat - 48)) 0 := by
      rw [v1, if_neg (by omega), if_neg (by omega), if_neg (by omega), if_neg (by omega)]
    have h2 : v1 L (101 :: exL mi (c :: xs)) 1 (10 * 0 + (d.toNat - 48)) 0 = vE (10 * 0 + (d.toNat - 48)) 0 L 2 := by
      rw [v1, if_pos (by decide)]
    have h3 : v1 L L 0 0 0 = vE (10 * 0 + (d.toNat - 48)) 0 L 2 := by
      rw [← h2, ← h1, ← hL]
    rw [ev] at hc ⊢
    rw [h3, e0]
    exact vE_ex [d, 101] _ 0 hc mi c xs hx hxl
  · rw [if_neg hn, List.cons_append] at hL
    have e0 : L = (d :: 46 :: (ds ++ [101])) ++ exL mi (c :: xs) := by rw [hL]; simp
    have h1 : v1 L (d :: 46 :: (ds ++ 101 :: exL mi (c :: xs))) 0 0 0 = v1 L (46 :: (ds ++ 101 :: exL mi (c :: xs))) 1 (10 * 0 + (d.toNat - 48)) 0 := by
      rw [v1, if_neg (by omega), if_neg (by omega), if_neg (by omega), if_neg (by omega)]
    have h2 : v1 L (46 :: (ds ++ 101 :: exL mi (c :: xs))) 1 (10 * 0 + (d.toNat - 48)) 0 = v1 L (ds ++ 101 :: exL mi (c :: xs)) 2 (10 * 0 + (d.toNat - 48)) 0 := by
      rw [v1, if_neg (by decide), if_pos (by decide)]
    have h3 := v1_digits L (101 :: exL mi (c :: xs)) ds 2 (10 * 0 + (d.toNat - 48)) 0 hds (by omega) (by omega)
    have h4 : v1 L (101 :: exL mi (c :: xs)) (2 + ds.length) (vD (10 * 0 + (d.toNat - 48)) ds) (0 - ds.length) = vE (vD (10 * 0 + (d.toNat - 48)) ds) (0 - ds.length) L (2 + ds.length + 1) := by
      rw [v1, if_pos (by decide)]
    have h5 : v1 L L 0 0 0 = vE (vD (10 * 0 + (d.toNat - 48)) ds) (0 - ds.length) L (2 + ds.length + 1) := by
      rw [← h4, ← h3, ← h2, ← h1, ← hL]
    have e6 : vD 0 (d :: ds) = vD (10 * 0 + (d.toNat - 48)) ds := by rw [vD_cons, Nat.mul_comm]
    rw [e6] at hc ⊢
    rw [h5, e0, show 2 + ds.length + 1 = (d :: 46 :: (ds ++ [101])).length by simp; omega]
    rw [vE_ex _ _ _ hc mi c xs hx hxl]
    congr 2
    omega

theorem dec_short {n : Nat} (h : n < 1000) : (Lib.decDigits n).length ≤ 3 := by
  rw [Lib.decDigits_length]
  by_cases a : n < 10
  · rw [Lib.nDigits_small a]; omega
  · rw [Lib.nDigits_big a]
    by_cases b : n / 10 < 10
    · rw [Lib.nDigits_small b]; omega
    · rw [Lib.nDigits_big b, Lib.nDigits_small (by omega)]; omega

/-- What was printed says its digits and its power of ten. -/
theorem v1_print {x : Nat} (h0 : rungOf x ≠ 0) (hf : rungOf x < INF) : v1 (txtL false (gF x) (nF x) (XF x)) (txtL false (gF x) (nF x) (XF x)) 0 0 0 = some (dF x, pF x) := by
  obtain ⟨b1, b2, b3, b4⟩ := parts_bounds hf
  obtain ⟨c, xs, e1, e2, e3⟩ := itoa_ex (XF x)
  have hd1 := (read_F h0 hf).2.1
  have hX : (if decide (XF x < 0) = true then -(vD 0 (c :: xs) : Int) else (vD 0 (c :: xs) : Int)) = XF x := by
    rw [e3]
    by_cases h : XF x < 0
    · rw [if_pos (decide_eq_true h)]; omega
    · rw [if_neg (by simpa using h)]; omega
  have hxl : (c :: xs).length ≤ 3 := by
    have h1 := dec_short (n := (XF x).natAbs) (by omega)
    unfold Lib.itoa exL at e1
    by_cases h : XF x < 0
    · rw [if_pos h, decide_eq_true h] at e1
      simp at e1
      rw [e1] at h1
      exact h1
    · rw [if_neg h, decide_eq_false h] at e1
      simp at e1
      rw [show (XF x).natAbs = (XF x).toNat by omega, e1] at h1
      exact h1
  have ed : dF x = vD 0 (gF x 0 :: moreD (gF x) (nF x)) := by unfold dF; rw [digL_more _ _ b1, valD_vD]
  have el : (moreD (gF x) (nF x)).length = nF x - 1 := by unfold moreD; simp
  have ei : (if moreD (gF x) (nF x) = [] then [] else 46 :: moreD (gF x) (nF x) : List UInt8) = (if 1 < nF x then 46 :: moreD (gF x) (nF x) else []) := by
    by_cases h : 1 < nF x
    · rw [if_pos h, if_neg (fun e => by rw [e] at el; simp at el; omega)]
    · rw [if_neg h, if_pos (List.eq_nil_of_length_eq_zero (by omega))]
  have et : txtL false (gF x) (nF x) (XF x) = gF x 0 :: ((if moreD (gF x) (nF x) = [] then [] else 46 :: moreD (gF x) (nF x)) ++ 101 :: exL (decide (XF x < 0)) (c :: xs)) := by
    rw [ei]
    unfold txtL prefL
    rw [e1]
    simp
  rw [v1_txt (gF x 0) (gF_isDig x 0) (moreD (gF x) (nF x)) (moreD_dig x _) (by omega) (by rw [← ed]; omega) (decide (XF x < 0)) c xs e2 hxl _ et, ← ed, hX, el]
  congr 2
  unfold pF
  omega
end Go.Proofs.YtadlppllbebkdaaGreatDoor
