/- The document's side: value's walk. -/
import Derived.Test.YtadlppllbebkdaaGreatDoorZPe
namespace Go.Proofs.YtadlppllbebkdaaGreatDoor
open Go.RowKit

def VOut (o : Option (Nat × Int)) (v : Value) : Prop :=
  match o with
  | none => v = .tuple #[.int .u64 (0 : Nat), .int .i64 0, .bool false]
  | some p => v = .tuple #[.int .u64 p.1, .int .i64 p.2, .bool true] ∧ 1 ≤ p.1 ∧ p.1 < 18446744073709551616 ∧ -1100 ≤ p.2 ∧ p.2 ≤ 1100

theorem pow19 {c i : Nat} (h : c < 10 ^ i) (hi : i ≤ 19) : c < 10000000000000000000 := by
  have h2 : 10 ^ i ≤ 10 ^ 19 := Nat.pow_le_pow_right (by decide) hi
  have e : (10 : Nat) ^ 19 = 10000000000000000000 := by decide
  omega

theorem ten_step {c i d : Nat} (h : c < 10 ^ i) (hd : d < 10) : 10 * c + d < 10 ^ (i + 1) := by
  rw [Nat.pow_succ]
  omega

set_option maxRecDepth 100000 in
set_option maxHeartbeats 4000000 in
theorem value_any (t : ByteArray) (ht : t.size ≤ 40) (w : World) :
    Calls Tryz.prog 37 #[.string t] w fun e w' => ∃ v, e = .returned v ∧ VOut (v1 t.data.toList t.data.toList 0 0 0) v ∧ w' = w := by
  obtain ⟨R, hR⟩ : ∃ R, Hid (v1 t.data.toList t.data.toList 0 0 0 = R) := ⟨_, Lib.hid rfl⟩
  rw [hR.out]
  have H0 : Hid (R = v1 t.data.toList (t.data.toList.drop 0) 0 0 0) := Lib.hid (by rw [List.drop_zero]; exact hR.out.symm)
  clear hR
  go_enter Tryz.func37, Tryz.ntmps37
  go_upto_block 0 with fail
  go_cut [5, 6, 7] from 10 to 57 (fun s5 s6 s7 wy => ∃ (c i : Nat) (s : Int), s5 = .int .u64 c ∧ s6 = .int .i64 s ∧ s7 = .int .i64 i ∧ c < 10000000000000000000 ∧ i ≤ 40 ∧ -40 ≤ s ∧ s ≤ 0 ∧ wy = w ∧ Hid (R = vE c s t.data.toList (i + 1)))
  case first =>
    go_wp2_with fail
    go_loopw [5, 6, 7] (fun s5 s6 s7 wr => ∃ (c i : Nat) (s : Int), s5 = .int .u64 c ∧ s6 = .int .i64 s ∧ s7 = .int .i64 i ∧ c < 10000000000000000000 ∧ i ≤ t.size ∧ -(i : Int) ≤ s ∧ s ≤ 0 ∧ wr = w ∧ Hid (R = v1 t.data.toList (t.data.toList.drop i) i c s ∧ i ≤ 19 ∧ c < 10 ^ i)) (fun _ _ s7 _ => t.size - (intOf s7).toNat)
    case atStart => exact ⟨0, 0, 0, rfl, rfl, rfl, by omega, by omega, by omega, by omega, rfl, Lib.hid ⟨H0.out, by omega, by simp⟩⟩
    case round =>
      clear H0
      obtain ⟨c, i, s, rfl, rfl, rfl, hc, hi, hs1, hs2, hwr, H0⟩ := hrel
      obtain rfl : w = wr := hwr.symm
      by_cases his : i < t.size
      · have his' : (i : Int) < (t.size : Int) := by omega
        obtain ⟨ch, hch⟩ : ∃ c, t[i] = c := ⟨_, rfl⟩
        have c255 : ch.toNat < 256 := ch.toNat_lt
        have hdr := drop_in t i his
        rw [hch] at hdr
        have H1 : Hid (R = if ch.toNat = 101 then vE c s t.data.toList (i + 1) else if i = 1 ∧ ch.toNat = 46 then v1 t.data.toList (t.data.toList.drop (i + 1)) (i + 1) c s else if ch.toNat < 48 ∨ 57 < ch.toNat ∨ 18 < i then none else v1 t.data.toList (t.data.toList.drop (i + 1)) (i + 1) (10 * c + (ch.toNat - 48)) (if 1 < i then s - 1 else s)) := Lib.hid (by
          have := H0.out.1
          rw [hdr] at this
          exact this)
        have HB := Lib.hid H0.out.2
        clear hdr H0
        by_cases a1 : ch.toNat = 101
        · have a1' : ((ch.toNat : Int) == 101) = true := by rw [beq_iff_eq]; omega
          have a1'' : ((ch.toNat : Int) != 101) = false := by simp; omega
          have H2 : Hid (R = vE c s t.data.toList (i + 1)) := Lib.hid (by rw [H1.out, if_pos a1])
          clear a1 H1
          go_wp2_with fail
          go_meet
          exact ⟨c, i, s, rfl, rfl, rfl, hc, by omega, by omega, hs2, by trivial, H2⟩
        · have a1' : ((ch.toNat : Int) == 101) = false := by rw [beq_eq_false_iff_ne]; omega
          have a1'' : ((ch.toNat : Int) != 101) = true := by simp; omega
          rw [if_neg a1] at H1
          by_cases a2 : i = 1 ∧ ch.toNat = 46
          · have b1 : ((i : Int) == 1) = true := by rw [beq_iff_eq]; omega
            have b2 : ((ch.toNat : Int) == 46) = true := by rw [beq_iff_eq]; omega
            have H2 : Hid (R = v1 t.data.toList (t.data.toList.drop (i + 1)) (i + 1) c s ∧ i + 1 ≤ 19 ∧ c < 10 ^ (i + 1)) := Lib.hid ⟨by rw [H1.out, if_pos a2], by omega, Nat.lt_of_lt_of_le HB.out.2 (Nat.pow_le_pow_right (by decide) (by omega))⟩
            have iLe : (i : Int) ≤ 1 := by omega
            clear a2 H1 HB
            go_wp2_with fail
            exact ⟨⟨c, i + 1, s, rfl, rfl, by simp, hc, his, by omega, hs2, by trivial, H2⟩, by simp [intOf] <;> omega⟩
          · rw [if_neg a2] at H1
            go_upto_region 5 with fail
            go_cut [27] from 20 to 26 (fun s27 wy => s27 = .bool false ∧ wy = w)
            case first =>
              by_cases b1 : i = 1
              · have b1' : ((i : Int) == 1) = true := by rw [beq_iff_eq]; omega
                have b2 : ((ch.toNat : Int) == 46) = false := by rw [beq_eq_false_iff_ne]; omega
                clear b1
                go_wp2_with fail
                go_meet
                exact ⟨rfl, by trivial⟩
              · have b1' : ((i : Int) == 1) = false := by rw [beq_eq_false_iff_ne]; omega
                go_wp2_with fail
                go_meet
                exact ⟨rfl, by trivial⟩
            case rest =>
              obtain ⟨rfl, hwc⟩ := hcut
              obtain rfl : w = wc := hwc.symm
              clear a2
              go_upto_region 7 with fail
              go_cut [43] from 30 to 42 (fun s43 wy => ∃ b : Bool, s43 = .bool b ∧ wy = w ∧ Hid (b = true ↔ ch.toNat < 48 ∨ 57 < ch.toNat ∨ 18 < i))
              case first =>
                by_cases d1 : ch.toNat < 48
                · have d1' : (ch.toNat : Int) < 48 := by omega
                  go_wp2_with fail
                  go_meet
                  exact ⟨true, rfl, by trivial, Lib.hid ⟨fun _ => .inl d1, fun _ => rfl⟩⟩
                · have d1' : decide ((ch.toNat : Int) < 48) = false := by simp; omega
                  have d1'' : (48 : Int) ≤ (ch.toNat : Int) := by omega
                  by_cases d2 : 57 < ch.toNat
                  · have d2' : (57 : Int) < (ch.toNat : Int) := by omega
                    go_wp2_with fail
                    go_meet
                    exact ⟨true, rfl, by trivial, Lib.hid ⟨fun _ => .inr (.inl d2), fun _ => rfl⟩⟩
                  · have d2' : decide ((57 : Int) < (ch.toNat : Int)) = false := by simp; omega
                    have d2'' : (ch.toNat : Int) ≤ 57 := by omega
                    by_cases d3 : 18 < i
                    · have d3' : (18 : Int) < (i : Int) := by omega
                      go_wp2_with fail
                      go_meet
                      exact ⟨true, rfl, by trivial, Lib.hid ⟨fun _ => .inr (.inr d3), fun _ => rfl⟩⟩
                    · have d3' : decide ((18 : Int) < (i : Int)) = false := by simp; omega
                      have d3'' : (i : Int) ≤ 18 := by omega
                      go_wp2_with fail
                      go_meet
                      exact ⟨false, rfl, by trivial, Lib.hid ⟨fun h => absurd h (by decide), fun h => by omega⟩⟩
              case rest =>
                obtain ⟨b, rfl, hwc, HC⟩ := hcut
                obtain rfl : w = wc := hwc.symm
                cases b with
                | true =>
                  have HN : Hid (R = none) := Lib.hid (by rw [H1.out, if_pos (HC.out.1 rfl)])
                  clear H1 HC HB
                  go_wp2_with fail
                  go_ret3
                  exact ⟨_, rfl, by rw [HN.out]; rfl, by trivial⟩
                | false =>
                  have hcn : ¬ (ch.toNat < 48 ∨ 57 < ch.toNat ∨ 18 < i) := fun h => absurd (HC.out.2 h) (by decide)
                  rw [if_neg hcn] at H1
                  have d1 : (48 : Int) ≤ (ch.toNat : Int) := by omega
                  have d2 : (ch.toNat : Int) ≤ 57 := by omega
                  have d3 : i ≤ 18 := by omega
                  obtain ⟨c2, hc2⟩ : ∃ c2, Hid (10 * c + (ch.toNat - 48) = c2) := ⟨_, Lib.hid rfl⟩
                  have HB2 : Hid (i + 1 ≤ 19 ∧ c2 < 10 ^ (i + 1)) := Lib.hid ⟨by omega, by rw [← hc2.out]; exact ten_step HB.out.2 (by omega)⟩
                  have c2b : c2 < 10000000000000000000 := pow19 HB2.out.2 HB2.out.1
                  rw [hc2.out] at H1
                  have cb : 10 * c < 18446744073709551616 := by have := hc2.out; omega
                  have ec2 : 10 * (c : Int) + ((ch.toNat : Int) - 48) = (c2 : Int) := by have := hc2.out; omega
                  clear HC hcn hc2 HB
                  go_upto_if 53 with fail
                  go_cut [6, 53] from 54 to 55 (fun s6 _ wy => ∃ s2 : Int, s6 = .int .i64 s2 ∧ -(i : Int) - 1 ≤ s2 ∧ s2 ≤ 0 ∧ wy = w ∧ Hid ((if 1 < i then s - 1 else s) = s2))
                  case first =>
                    by_cases d4 : 1 < i
                    · have d4' : (1 : Int) < (i : Int) := by omega
                      go_wp2_with fail
                      go_meet
                      exact ⟨s - 1, rfl, by omega, by omega, by trivial, Lib.hid (if_pos d4)⟩
                    · have d4' : decide ((1 : Int) < (i : Int)) = false := by simp; omega
                      have d4'' : (i : Int) ≤ 1 := by omega
                      go_wp2_with fail
                      go_meet
                      exact ⟨s, rfl, by omega, by omega, by trivial, Lib.hid (if_neg d4)⟩
                  case rest =>
                    obtain ⟨s2, rfl, e1, e2, hwc, HS⟩ := hcut
                    obtain rfl : w = wc := hwc.symm
                    rw [HS.out] at H1
                    have H2 : Hid (R = v1 t.data.toList (t.data.toList.drop (i + 1)) (i + 1) c2 s2 ∧ i + 1 ≤ 19 ∧ c2 < 10 ^ (i + 1)) := Lib.hid ⟨H1.out, HB2.out.1, HB2.out.2⟩
                    clear H1 HS HB2 ec2 cb
                    go_wp2_with fail
                    exact ⟨⟨c2, i + 1, s2, rfl, rfl, rfl, c2b, his, by push_cast; omega, e2, by trivial, H2⟩, by simp [intOf] <;> omega⟩
      · have his' : decide ((i : Int) < (t.size : Int)) = false := by simp; omega
        have his2 : t.size ≤ i := by omega
        have H2 : Hid (R = vE c s t.data.toList (i + 1)) := Lib.hid (by
          have := H0.out.1
          rw [drop_out t i his2] at this
          exact this)
        clear H0
        go_wp2_with fail
        go_meet
        exact ⟨c, i, s, rfl, rfl, rfl, hc, by omega, by omega, hs2, by trivial, H2⟩
  case rest =>
    clear H0
    obtain ⟨c, i, s, rfl, rfl, rfl, hc, hi, hs1, hs2, hwc, H0⟩ := hcut
    obtain rfl : w = wc := hwc.symm
    obtain ⟨j, hj⟩ : ∃ j, Hid (i + 1 = j) := ⟨_, Lib.hid rfl⟩
    have ej : (i : Int) + 1 = (j : Int) := by have := hj.out; omega
    have jb : j ≤ 41 := by have := hj.out; omega
    rw [hj.out] at H0
    clear hj
    go_upto_region 14 with fail
    clear ej
    go_cut [8] from 60 to 69 (fun s8 wy => ∃ mi : Bool, s8 = .bool mi ∧ wy = w ∧ Hid (R = v3 c s mi t.data.toList (if mi then j + 1 else j)))
    case first =>
      by_cases his : j < t.size
      · have his' : (j : Int) < (t.size : Int) := by omega
        obtain ⟨ch, hch⟩ : ∃ c, t[j] = c := ⟨_, rfl⟩
        have c255 : ch.toNat < 256 := ch.toNat_lt
        have hdr := drop_in t j his
        rw [hch] at hdr
        have H1 : Hid (R = if ch.toNat = 45 then v3 c s true t.data.toList (j + 1) else v3 c s false t.data.toList j) := Lib.hid (by
          have := H0.out
          unfold vE at this
          rw [hdr] at this
          exact this)
        clear hdr H0
        by_cases a1 : ch.toNat = 45
        · have a1' : ((ch.toNat : Int) == 45) = true := by rw [beq_iff_eq]; omega
          rw [if_pos a1] at H1
          clear a1
          go_wp2_with fail
          go_meet
          exact ⟨true, rfl, by trivial, H1⟩
        · have a1' : ((ch.toNat : Int) == 45) = false := by rw [beq_eq_false_iff_ne]; omega
          rw [if_neg a1] at H1
          go_wp2_with fail
          go_meet
          exact ⟨false, rfl, by trivial, H1⟩
      · have his' : decide ((j : Int) < (t.size : Int)) = false := by simp; omega
        have his2 : t.size ≤ j := by omega
        have H1 : Hid (R = v3 c s false t.data.toList j) := Lib.hid (by
          have := H0.out
          unfold vE at this
          rw [drop_out t j his2] at this
          exact this)
        clear H0
        go_wp2_with fail
        go_meet
        exact ⟨false, rfl, by trivial, H1⟩
    case rest =>
      clear H0
      obtain ⟨mi, rfl, hwc, H0⟩ := hcut
      obtain rfl : w = wc := hwc.symm
      go_upto_if 70 with fail
      go_cut [7, 70] from 71 to 72 (fun s7 _ wy => ∃ k : Nat, s7 = .int .i64 k ∧ k ≤ 42 ∧ wy = w ∧ Hid (R = v3 c s mi t.data.toList k))
      case first =>
        cases mi with
        | true =>
          obtain ⟨k, hk⟩ : ∃ k, Hid (j + 1 = k) := ⟨_, Lib.hid rfl⟩
          have ek : (j : Int) + 1 = (k : Int) := by have := hk.out; omega
          have kb : k ≤ 42 := by have := hk.out; omega
          have H1 : Hid (R = v3 c s true t.data.toList k) := Lib.hid (by rw [← hk.out]; exact H0.out)
          clear hk H0
          go_wp2_with fail
          go_meet
          exact ⟨k, rfl, kb, by trivial, H1⟩
        | false =>
          have H1 : Hid (R = v3 c s false t.data.toList j) := Lib.hid H0.out
          clear H0
          go_wp2_with fail
          go_meet
          exact ⟨j, rfl, by omega, by trivial, H1⟩
      case rest =>
        clear H0 jb
        obtain ⟨k, rfl, kb, hwc, H0⟩ := hcut
        obtain rfl : w = wc := hwc.symm
        have H1 : Hid (R = if t.size ≤ k ∨ 3 < t.size - k ∨ c = 0 then none else (v2 (t.data.toList.drop k) 0).map fun e => (c, s + (if mi then -(e : Int) else (e : Int)))) := Lib.hid (by
          have := H0.out
          unfold v3 at this
          rw [len_in] at this
          exact this)
        clear H0
        go_upto_region 17 with fail
        go_cut [87] from 73 to 86 (fun s87 wy => ∃ b : Bool, s87 = .bool b ∧ wy = w ∧ Hid (b = true ↔ t.size ≤ k ∨ 3 < t.size - k ∨ c = 0))
        case first =>
          by_cases d1 : t.size ≤ k
          · have d1' : (t.size : Int) ≤ (k : Int) := by omega
            go_wp2_with fail
            go_meet
            exact ⟨true, rfl, by trivial, Lib.hid ⟨fun _ => .inl d1, fun _ => rfl⟩⟩
          · have d1' : decide ((t.size : Int) ≤ (k : Int)) = false := by simp; omega
            have d1n : decide (t.size ≤ k) = false := decide_eq_false d1
            have d1'' : (k : Int) < (t.size : Int) := by omega
            obtain ⟨g, hg⟩ : ∃ g, Hid (t.size - k = g) := ⟨_, Lib.hid rfl⟩
            have eg : (t.size : Int) - (k : Int) = (g : Int) := by have := hg.out; omega
            by_cases d2 : 3 < g
            · have d2' : (3 : Int) < (g : Int) := by omega
              have hR2 : 3 < t.size - k := by rw [hg.out]; exact d2
              have HR2 := Lib.hid hR2
              clear hg hR2
              go_wp2_with fail
              go_meet
              exact ⟨true, rfl, by trivial, Lib.hid ⟨fun _ => .inr (.inl HR2.out), fun _ => rfl⟩⟩
            · have d2' : decide ((3 : Int) < (g : Int)) = false := by simp; omega
              have d2'' : (g : Int) ≤ 3 := by omega
              have hR2 : ¬ 3 < t.size - k := by rw [hg.out]; exact d2
              have HR2 := Lib.hid hR2
              clear hg hR2
              by_cases d3 : c = 0
              · have d3' : ((c : Int) == 0) = true := by rw [beq_iff_eq]; omega
                have HD3 := Lib.hid d3
                clear d3
                go_wp2_with fail
                go_meet
                exact ⟨true, rfl, by trivial, Lib.hid ⟨fun _ => .inr (.inr HD3.out), fun _ => rfl⟩⟩
              · have d3' : ((c : Int) == 0) = false := by rw [beq_eq_false_iff_ne]; omega
                go_wp2_with fail
                go_meet
                exact ⟨false, rfl, by trivial, Lib.hid ⟨fun h => absurd h (by decide), fun h => by rcases h with h | h | h; exact absurd h d1; exact absurd h HR2.out; exact absurd h d3⟩⟩
        case rest =>
          obtain ⟨b, rfl, hwc, HC⟩ := hcut
          obtain rfl : w = wc := hwc.symm
          cases b with
          | true =>
            have HN : Hid (R = none) := Lib.hid (by rw [H1.out, if_pos (HC.out.1 rfl)])
            clear H1 HC
            go_wp2_with fail
            go_ret3
            exact ⟨_, rfl, by rw [HN.out]; rfl, by trivial⟩
          | false =>
            have hcn : ¬ (t.size ≤ k ∨ 3 < t.size - k ∨ c = 0) := fun h => absurd (HC.out.2 h) (by decide)
            rw [if_neg hcn] at H1
            have k1 : k < t.size := by omega
            have k3 : t.size ≤ k + 3 := by omega
            have c1 : 1 ≤ c := by omega
            clear HC hcn
            go_upto_block 2 with fail
            go_cut [7, 9] from 88 to 111 (fun _ s9 wy => ∃ e : Nat, s9 = .int .i64 e ∧ e < 1000 ∧ wy = w ∧ Hid (R = some (c, s + (if mi then -(e : Int) else (e : Int)))))
            case first =>
              go_wp2_with fail
              go_loopw [7, 9] (fun s7 s9 wr => ∃ k e : Nat, s7 = .int .i64 k ∧ s9 = .int .i64 e ∧ k ≤ t.size ∧ t.size ≤ k + 3 ∧ e < 1000 ∧ wr = w ∧ Hid (R = (v2 (t.data.toList.drop k) e).map (fun e => (c, s + (if mi then -(e : Int) else (e : Int)))) ∧ e < 10 ^ (k + 3 - t.size))) (fun s7 _ _ => t.size - (intOf s7).toNat)
              case atStart => exact ⟨k, 0, rfl, rfl, by omega, k3, by omega, rfl, Lib.hid ⟨H1.out, Nat.pow_pos (by decide)⟩⟩
              case round =>
                clear H1 k1 k3 kb
                obtain ⟨k, e, rfl, rfl, k1, k3, e1, hwr, H1⟩ := hrel
                obtain rfl : w = wr := hwr.symm
                by_cases hks : k < t.size
                · have hks' : (k : Int) < (t.size : Int) := by omega
                  obtain ⟨ch, hch⟩ : ∃ c, t[k] = c := ⟨_, rfl⟩
                  have c255 : ch.toNat < 256 := ch.toNat_lt
                  have hdr := drop_in t k hks
                  rw [hch] at hdr
                  have H2 : Hid (R = (if ch.toNat < 48 ∨ 57 < ch.toNat then none else v2 (t.data.toList.drop (k + 1)) (10 * e + (ch.toNat - 48))).map (fun e => (c, s + (if mi then -(e : Int) else (e : Int))))) := Lib.hid (by
                    have := H1.out.1
                    rw [hdr] at this
                    exact this)
                  have HE := Lib.hid H1.out.2
                  clear H1 hdr
                  by_cases d1 : ch.toNat < 48
                  · have d1' : (ch.toNat : Int) < 48 := by omega
                    have HN : Hid (R = none) := Lib.hid (by rw [H2.out, if_pos (.inl d1)]; rfl)
                    clear H2 HE
                    go_wp2_with fail
                    go_ret3
                    exact ⟨_, rfl, by rw [HN.out]; rfl, by trivial⟩
                  · have d1' : decide ((ch.toNat : Int) < 48) = false := by simp; omega
                    have d1'' : (48 : Int) ≤ (ch.toNat : Int) := by omega
                    by_cases d2 : 57 < ch.toNat
                    · have d2' : (57 : Int) < (ch.toNat : Int) := by omega
                      have HN : Hid (R = none) := Lib.hid (by rw [H2.out, if_pos (.inr d2)]; rfl)
                      clear H2 HE
                      go_wp2_with fail
                      go_ret3
                      exact ⟨_, rfl, by rw [HN.out]; rfl, by trivial⟩
                    · have d2' : decide ((57 : Int) < (ch.toNat : Int)) = false := by simp; omega
                      have d2'' : (ch.toNat : Int) ≤ 57 := by omega
                      rw [if_neg (by omega)] at H2
                      obtain ⟨e2, he2⟩ : ∃ e2, Hid (10 * e + (ch.toNat - 48) = e2) := ⟨_, Lib.hid rfl⟩
                      rw [he2.out] at H2
                      have HE2 : Hid (e2 < 10 ^ (k + 1 + 3 - t.size)) := Lib.hid (by
                        rw [← he2.out, show k + 1 + 3 - t.size = (k + 3 - t.size) + 1 by omega]
                        exact ten_step HE.out (by omega))
                      have e2b : e2 < 1000 := by
                        have h1 : 10 ^ (k + 1 + 3 - t.size) ≤ 10 ^ 3 := Nat.pow_le_pow_right (by decide) (by omega)
                        have h2 := HE2.out
                        have e3 : (10 : Nat) ^ 3 = 1000 := by decide
                        omega
                      have ee2 : 10 * (e : Int) + ((ch.toNat : Int) - 48) = (e2 : Int) := by have := he2.out; omega
                      have H3 : Hid (R = (v2 (t.data.toList.drop (k + 1)) e2).map (fun e => (c, s + (if mi then -(e : Int) else (e : Int)))) ∧ e2 < 10 ^ (k + 1 + 3 - t.size)) := Lib.hid ⟨H2.out, HE2.out⟩
                      clear H2 HE HE2 he2
                      go_wp2_with fail
                      exact ⟨⟨k + 1, e2, rfl, rfl, hks, by omega, e2b, by trivial, H3⟩, by simp [intOf] <;> omega⟩
                · have hks' : decide ((k : Int) < (t.size : Int)) = false := by simp; omega
                  have hks2 : t.size ≤ k := by omega
                  have H2 : Hid (R = some (c, s + (if mi then -(e : Int) else (e : Int)))) := Lib.hid (by
                    have := H1.out.1
                    rw [drop_out t k hks2] at this
                    exact this)
                  clear H1
                  go_wp2_with fail
                  go_meet
                  exact ⟨e, rfl, e1, by trivial, H2⟩
            case rest =>
              clear H1
              obtain ⟨e, rfl, e1, hwc, H1⟩ := hcut
              obtain rfl : w = wc := hwc.symm
              cases mi with
              | true =>
                have H2 : Hid (R = some (c, s + -(e : Int))) := Lib.hid H1.out
                clear H1
                go_wp2_with fail
                go_ret3
                exact ⟨_, rfl, by rw [H2.out]; exact ⟨rfl, c1, by omega, by show -1100 ≤ s + -(e : Int); omega, by show s + -(e : Int) ≤ 1100; omega⟩, by trivial⟩
              | false =>
                have H2 : Hid (R = some (c, s + (e : Int))) := Lib.hid H1.out
                clear H1
                go_wp2_with fail
                go_ret3
                exact ⟨_, rfl, by rw [H2.out]; exact ⟨rfl, c1, by omega, by show -1100 ≤ s + (e : Int); omega, by show s + (e : Int) ≤ 1100; omega⟩, by trivial⟩
end Go.Proofs.YtadlppllbebkdaaGreatDoor
