/- The document's limits and tables. -/
import Derived.Test.YtmjokinagbpihaaDoorQD3
namespace Go.Proofs.YtmjokinagbpihaaDoor
open Go.RowKit

/-- Is it in its range? -/
def inR (lo hi v : Int) : Bool := rngE lo hi v == 0
theorem inR_true {lo hi v : Int} (h : inR lo hi v = true) : rngE lo hi v = 0 := by simpa [inR] using h
theorem inR_false {lo hi v : Int} (h : inR lo hi v = false) : rngE lo hi v ≠ 0 := by simpa [inR] using h

set_option maxRecDepth 100000 in
theorem dwithin_any (v lo hi : Int) (w : World) :
    Calls Tryd.prog 34 #[.int .i64 v, .int .i64 lo, .int .i64 hi] w fun e w' => e = .returned (.bool (inR lo hi v)) ∧ w' = w := by
  obtain ⟨E, hE⟩ : ∃ E, Hid (inR lo hi v = E) := ⟨_, rfl⟩
  rw [hE.out]
  by_cases h1 : lo ≤ v
  · by_cases h2 : v ≤ hi
    · obtain rfl : E = true := by rw [← hE.out, inR, rngE, if_pos ⟨h1, h2⟩]; rfl
      go_enter Tryd.func34, Tryd.ntmps34
      go_wp2
      go_ret
      exact ⟨rfl, rfl⟩
    · obtain rfl : E = false := by rw [← hE.out, inR, rngE, if_neg (fun h => h2 h.2)]; rfl
      have d2 : decide (v ≤ hi) = false := by simpa using h2
      have d2' : hi < v := by omega
      clear h2
      go_enter Tryd.func34, Tryd.ntmps34
      go_wp2
      go_ret
      exact ⟨rfl, rfl⟩
  · obtain rfl : E = false := by rw [← hE.out, inR, rngE, if_neg (fun h => h1 h.1)]; rfl
    have d1 : decide (lo ≤ v) = false := by simpa using h1
    have d1' : v < lo := by omega
    clear h1
    go_enter Tryd.func34, Tryd.ntmps34
    go_wp2
    go_ret
    exact ⟨rfl, rfl⟩

theorem isPt_in (P x : Int) : isPt P x = inR 0 (P - 1) x := by
  unfold isPt inR rngE
  by_cases h : 0 ≤ x ∧ x ≤ P - 1
  · rw [if_pos h]
    have : x < P := by omega
    simp [h.1, this]
  · rw [if_neg h]
    by_cases h0 : 0 ≤ x
    · have : ¬ x < P := fun h1 => h ⟨h0, by omega⟩
      simp [this]
    · simp [h0]

set_option maxRecDepth 100000 in
set_option maxHeartbeats 1000000 in
theorem dtables_any (a : Option Addr) (cap : Nat) (l : List Int) (P : Int) (w : World) (hR : Rd w a (iC l)) (hP : 0 ≤ P ∧ P ≤ 1000000) :
    Calls Tryd.prog 33 #[.slice a l.length cap, .int .i64 P] w fun e w' => e = .returned (.int .i64 (tabE l P)) ∧ w' = w := by
  obtain ⟨E, hE⟩ : ∃ E, Hid (tabE l P = E) := ⟨_, rfl⟩
  rw [hE.out]
  by_cases h0 : l.length = 0
  · obtain rfl : E = 1 := by rw [← hE.out, tabE, if_pos h0]
    have h0' : ((l.length : Int) == 0) = true := by rw [beq_iff_eq]; omega
    clear hR h0 hE
    generalize l.length = len at *
    go_enter Tryd.func33, Tryd.ntmps33
    go_wp2
    go_ret
    exact ⟨rfl, rfl⟩
  · have h0' : ((l.length : Int) == 0) = false := by rw [beq_eq_false_iff_ne]; omega
    by_cases h64 : 64 < l.length
    · obtain rfl : E = 3 := by rw [← hE.out, tabE, if_neg h0, if_pos h64]
      have h8' : (64 : Int) < (l.length : Int) := by omega
      clear hR h0 hE h64
      generalize l.length = len at *
      go_enter Tryd.func33, Tryd.ntmps33
      go_wp2
      go_ret
      exact ⟨rfl, rfl⟩
    · have h8' : (l.length : Int) ≤ 64 := by omega
      have h8d : decide ((64 : Int) < (l.length : Int)) = false := by simp; omega
      have HT : Hid (E = if l.all (isPt P) then 0 else 2) := hd (by rw [← hE.out, tabE, if_neg h0, if_neg h64])
      obtain ⟨b, off, rfl, hc⟩ := rd_int hR (by omega)
      have HC := hd hc
      have eP : IntKind.i64.wrap (P - 1) = P - 1 := by rw [IntKind.wrap_i64]; omega
      clear hc hR hE h0 h64
      go_enter Tryd.func33, Tryd.ntmps33
      go_upto_block 0 with fail
      go_wp2_with fail
      go_loopg [4, 5, 12, 13, 14, 15, 16, 17, 18, 19, 20, 21, 22, 23, 24, 25] l.length (fun gg v4 v5 v12 v13 v14 v15 v16 v17 v18 v19 v20 v21 v22 v23 v24 v25 wr => ∃ i : Nat, i + gg = l.length ∧ v5 = .int .i64 (i : Int) ∧ Hid (∀ j, j < i → isPt P (l.getD j 0) = true) ∧ wr = w)
      case atStart => exact ⟨0, by omega, by go_num, hd (fun j hj => absurd hj (Nat.not_lt_zero j)), rfl⟩
      case round =>
        obtain ⟨i, hi, rfl, HA, rfl⟩ := hrel
        by_cases h0 : gk = 0
        · subst h0
          have hge : decide ((i : Int) < (l.length : Int)) = false := by simp; omega
          have hge' : (l.length : Int) ≤ (i : Int) := by omega
          obtain rfl : E = 0 := by
            rw [HT.out, if_pos]
            rw [List.all_eq_true]
            intro x hx
            obtain ⟨j, hj, rfl⟩ := List.getElem_of_mem hx
            have := HA.out j (by omega)
            rwa [List.getD_eq_getElem?_getD, List.getElem?_eq_getElem hj] at this
          go_wp2_with fail
          go_ret
          exact ⟨rfl, rfl⟩
        · have hlt : (i : Int) < (l.length : Int) := by omega
          have hx := HC.out i (by omega)
          have hwi := dwithin_any (l.getD i 0) 0 (P - 1) wr
          rw [← isPt_in] at hwi
          have HI : Hid (isPt P (l.getD i 0) = false → E = 2) := hd (fun h => by
            rw [HT.out, if_neg]
            intro h2
            have := all_at h2 i (by omega)
            rw [h] at this
            cases this)
          have HN : Hid (isPt P (l.getD i 0) = true → ∀ j, j < i + 1 → isPt P (l.getD j 0) = true) := hd (fun h j hj => by
            by_cases e : j = i
            · rw [e]; exact h
            · exact HA.out j (by omega))
          clear HA HC HT
          generalize isPt P (l.getD i 0) = B at *
          generalize l.getD i 0 = x at *
          cases B with
          | true =>
            go_wp2_with (go_at_call 34; refine hwi.mono ?_; rintro e wq ⟨rfl, hwq⟩; obtain rfl : wr = wq := hwq.symm)
            go_roundg (gk - 1)
            case rel => exact ⟨i + 1, by omega, by go_num, hd (HN.out (by trivial)), rfl⟩
            case measure => omega
          | false =>
            obtain rfl : E = 2 := HI.out (by trivial)
            go_wp2_with (go_at_call 34; refine hwi.mono ?_; rintro e wq ⟨rfl, hwq⟩; obtain rfl : wr = wq := hwq.symm)
            go_ret
            exact ⟨rfl, rfl⟩
end Go.Proofs.YtmjokinagbpihaaDoor
