/- The sort itself: what it leaves is a permutation, in order. -/
import Derived.Test.YtaikeeidjfcijaaS11
import Derived.Deep.Cut
import Derived.Deep.CutRange
namespace Go.Proofs.Ytaikeeidjfcijaa
open Go.RowKit Go.Sort

set_option maxRecDepth 100000 in
set_option maxHeartbeats 64000000 in
theorem pdq_any (m : Nat) : ∀ (g n cap A B lim : Nat) (d : Array Nat) (w : World), B - A = m → Row w g n cap d → A ≤ B → B ≤ n → n ≤ 4000000 → lim ≤ 64 → Sort.Below ltN A B d →
    Calls Try.prog 36 #[.slice (some ⟨g, 0, none⟩) n cap, .int .i64 A, .int .i64 B, .int .i64 lim] w fun e w' => e = .returned (.tuple #[]) ∧ ∃ d', PermIn A B d d' ∧ SortedIn ltN A B d' ∧ Now w g n cap d' w' := by
  induction m using Nat.strongRecOn with
  | ind m ih =>
  intro g n cap A B lim d w hm hR hAB hB hn hlim hbel
  have IH : Hid _ := ih
  clear ih
  have hN0 := Now.refl hR
  have hE0 : Hid (Ends A B A B d d) := fun d' h1 h2 => ⟨h1, h2⟩
  have hB0 : Hid (Sort.Below ltN A B d) := hbel
  clear hbel hR
  go_enter Try.func36, Try.ntmps36
  go_wp2
  go_loopw [1, 2, 3, 8, 9] (fun va vb vl vwb vwp wr => ∃ (a b l : Nat) (wb wp : Bool) (dk : Array Nat), va = .int .i64 a ∧ vb = .int .i64 b ∧ vl = .int .i64 l ∧ vwb = .bool wb ∧ vwp = .bool wp ∧ A ≤ a ∧ a ≤ b ∧ b ≤ B ∧ l ≤ 64 ∧ Now w g n cap dk wr ∧ Hid (Ends A B a b d dk) ∧ Hid (Sort.Below ltN a b dk)) (fun va vb _ _ _ _ => (intOf vb - intOf va).toNat)
  case atStart => exact ⟨A, B, lim, true, true, d, rfl, rfl, rfl, rfl, rfl, Nat.le_refl _, hAB, Nat.le_refl _, hlim, hN0, hE0, hB0⟩
  case round =>
    clear hN0 hE0 hB0
    obtain ⟨a, b, l, wb, wp, dk, rfl, rfl, rfl, rfl, rfl, hAa, hab, hbB, hl64, hN, hE, hBl⟩ := hrel
    obtain ⟨L, hL⟩ : ∃ L : Nat, Hid (L = b - a) := ⟨_, rfl⟩
    have eL : (b : Int) - (a : Int) = (L : Int) := by have := hL.out; omega
    by_cases h12 : L ≤ 12
    · have h12' : (L : Int) ≤ 12 := by omega
      have hI := insertion_any g n cap a b dk wr hN.row hab (by omega) hn
      have hsz := hN.row.size
      obtain ⟨q1, q2⟩ := insertionSort_holds swoN dk a b hab (by omega)
      obtain ⟨r1, r2⟩ := hE.out _ q1 q2
      have Q1 : Hid _ := r1
      have Q2 : Hid _ := r2
      clear q1 q2 r1 r2
      go_wp2_with (first | (go_at_call 39; refine hI.mono ?_; rintro e w1 ⟨rfl, hN1⟩))
      refine bodyPost_ret (results_none rfl _ _ _) rfl ?_
      exact ⟨rfl, _, Q1.out, Q2.out, hN.trans hN1⟩
    · have h12' : decide ((L : Int) ≤ 12) = false := decide_eq_false (by omega)
      have h12'' : (12 : Int) < (L : Int) := by omega
      have hab8 : a + 8 ≤ b := by have := hL.out; omega
      by_cases hl0 : l = 0
      · have hl0' : ((l : Int) == 0) = true := by rw [beq_iff_eq]; omega
        have hI := heap_any g n cap a b dk wr hN.row (by omega) (by omega) hn
        have hsz := hN.row.size
        obtain ⟨q1, q2⟩ := heapSort_holds swoN dk a b hab (by omega)
        obtain ⟨r1, r2⟩ := hE.out _ q1 q2
        have Q1 : Hid _ := r1
        have Q2 : Hid _ := r2
        clear q1 q2 r1 r2
        go_wp2_with (first | (go_at_call 40; refine hI.mono ?_; rintro e w1 ⟨rfl, hN1⟩))
        refine bodyPost_ret (results_none rfl _ _ _) rfl ?_
        exact ⟨rfl, _, Q1.out, Q2.out, hN.trans hN1⟩
      · have hl0' : ((l : Int) == 0) = false := by rw [beq_eq_false_iff_ne]; omega
        go_upto_if 35 with fail
        go_cut [3] from 19 to 133 (fun s3 wc => ∃ (l1 : Nat) (d1 : Array Nat), s3 = .int .i64 l1 ∧ l1 ≤ 64 ∧ Hid (PermIn a b dk d1) ∧ Now w g n cap d1 wc)
        case first =>
          have hK := break_any g n cap a b dk wr hN.row hab8 (by omega) hn
          cases wb
          · go_wp2_with (first | (go_at_call 41; refine hK.mono ?_; rintro e w1 ⟨rfl, d1, hp1, hN1⟩))
            go_meet
            case rel => exact ⟨l - 1, d1, by congr 1; omega, by omega, hp1, hN.trans hN1⟩
          · go_wp2
            go_meet
            case rel => exact ⟨l, dk, rfl, hl64, permIn_refl _ _ _, hN⟩
        case rest =>
        obtain ⟨l1, d1, rfl, hl1, hp1, hN1⟩ := hcut
        clear hl0'
        have hP := pivot_any g n cap a b d1 wc hN1.row hab8 (by omega) hn
        go_upto_if 50 with (go_at_call 42; refine hP.mono ?_; rintro e w2 ⟨p, h, rfl, hpp, hh, hN2⟩)
        clear hP
        have hN2' := hN1.trans hN2
        go_cut [11, 12] from 19 to 133 (fun s11 s12 wc => ∃ (p h : Nat) (d2 : Array Nat), s11 = .int .i64 p ∧ s12 = .int .i64 h ∧ (a ≤ p ∧ p < b) ∧ Hid (PermIn a b dk d2) ∧ Now w g n cap d2 wc)
        case first =>
          have hV := reverse_any g n cap a b d1 w2 hN2.row (by omega) (by omega) hn
          have hsz := hN2.row.size
          have hrv : Hid (PermIn a b dk (reverseRange d1 a b)) := permIn_trans _ _ _ _ _ hp1.out (reverseRange_holds d1 a b hab (by omega))
          by_cases h2 : h = 2
          · have h2' : ((h : Int) == 2) = true := by rw [beq_iff_eq]; omega
            go_wp2_with (first | (go_at_call 43; refine hV.mono ?_; rintro e w3 ⟨rfl, hN3⟩))
            go_meet
            case rel => exact ⟨(b - 1) - (p - a), 1, _, by congr 1; omega, rfl, by omega, hrv, hN2'.trans hN3⟩
          · have h2' : ((h : Int) == 2) = false := by rw [beq_eq_false_iff_ne]; omega
            go_wp2
            go_meet
            case rel => exact ⟨p, h, d1, rfl, rfl, hpp, hp1, hN2'⟩
        case rest =>
        clear hpp hh hN2 hN2' hN1 hp1
        obtain ⟨pv, hv, d2, rfl, rfl, hpv, hp2, hN2⟩ := hcut
        go_upto_region 15 with fail
        go_cut [68] from 19 to 133 (fun s68 wx => (∃ c : Bool, s68 = .bool c) ∧ Now w g n cap d2 wx)
        case first =>
          cases wb
          · go_wp2
            go_meet
            case rel => exact ⟨⟨_, rfl⟩, hN2⟩
          · cases wp
            · go_wp2
              go_meet
              case rel => exact ⟨⟨_, rfl⟩, hN2⟩
            · go_wp2
              go_meet
              case rel => exact ⟨⟨_, rfl⟩, hN2⟩
        case rest =>
        clear hN2
        obtain ⟨⟨cc, rfl⟩, hN2⟩ := hcut
        go_upto_if 68 with fail
        go_cut [] from 19 to 133 (fun wx => ∃ d3, Hid (PermIn a b dk d3) ∧ Now w g n cap d3 wx)
        case first =>
          cases cc
          · go_wp2
            go_meet
            case rel => exact ⟨d2, hp2, hN2⟩
          · have hsz := hN2.row.size
            have hszk : dk.size = d2.size := hp2.out.1.symm
            have hI := partial_any g n cap a b d2 wc hN2.row (by omega) (by omega) hn
            obtain ⟨q1, q2⟩ := partialInsertionSort_holds swoN d2 a b (by omega) (by omega) (below_perm hBl.out hp2.out (by omega))
            have Q1 : Hid (PermIn a b dk (partialInsertionSort ltN d2 a b).1) := permIn_trans _ _ _ _ _ hp2.out q1
            have Q2 : Hid _ := q2
            clear q1 q2
            generalize partialInsertionSort ltN d2 a b = pr at *
            obtain ⟨d3, r⟩ := pr
            simp only at hI Q1 Q2
            cases r
            · go_wp2_with (first | (go_at_call 44; refine hI.mono ?_; rintro e w3 ⟨rfl, hN3⟩))
              go_meet
              case rel => exact ⟨d3, Q1, hN2.trans hN3⟩
            · go_wp2_with (first | (go_at_call 44; refine hI.mono ?_; rintro e w3 ⟨rfl, hN3⟩))
              obtain ⟨r1, r2⟩ := hE.out _ Q1.out (Q2.out trivial)
              refine bodyPost_ret (results_none rfl _ _ _) rfl ?_
              exact ⟨rfl, _, r1, r2, hN2.trans hN3⟩
        case rest =>
        clear hN2
        obtain ⟨d3, hp3, hN3⟩ := hcut
        have hsz3 := hN3.row.size
        have hszk : dk.size = d3.size := hp3.out.1.symm
        have hE3 : Hid (Ends A B a b d d3) := ends_perm hE.out hp3.out
        have hB3 : Hid (Sort.Below ltN a b d3) := below_perm hBl.out hp3.out (by omega)
        clear hE hBl hp2 hp3 hszk
        by_cases ha0 : a = 0
        · have ha0' : decide ((0 : Int) < (a : Int)) = false := decide_eq_false (by omega)
          have ha0n : decide (0 < a) = false := decide_eq_false (by omega)
          clear ha0
          go_wp2_with fail
          go_quiet (first | (go_at_call 45; refine Calls.quiet_of_same (less_any _ _ _)))
          have hQ := part_any g n cap a b pv d3 (wc.drewN nq) (hN3.row.drewN nq) (by omega) (by omega) hn hpv.1 hpv.2
          obtain ⟨q1, q2, q3, q4, q5⟩ := partition_holds ltN swoN d3 a b pv hpv.1 hpv.2 (by omega)
          have hB4 := below_perm hB3.out q3 (by omega)
          generalize partition ltN d3 a b pv = pr at *
          obtain ⟨mid, ap, d4⟩ := pr
          simp only at hQ q1 q2 q3 q4 q5 hB4
          have hz4 : d4.size = d3.size := q3.1
          have Q3 : Hid (PermIn a b d3 d4) := q3
          have Q4 : Hid (∀ i, a ≤ i → i < mid → d4[i]! < d4[mid]!) := fun i hi him => lt_yes.1 (q4 i hi him)
          have Q5 : Hid (∀ i, mid < i → i < b → d4[mid]! ≤ d4[i]!) := fun i hi hib => lt_no.1 (q5 i hi hib)
          have HB4 : Hid (Sort.Below ltN a b d4) := hB4
          clear q3 q4 q5 hB4
          obtain ⟨ll, hll⟩ : ∃ ll : Nat, Hid (ll = mid - a) := ⟨_, rfl⟩
          obtain ⟨rl, hrl⟩ : ∃ rl : Nat, Hid (rl = b - mid) := ⟨_, rfl⟩
          have ell : (mid : Int) - (a : Int) = (ll : Int) := by have := hll.out; omega
          have erl : (b : Int) - (mid : Int) = (rl : Int) := by have := hrl.out; omega
          have hNd := hN3.drewN nq
          by_cases hlr : ll < rl
          · have hlr' : (ll : Int) < (rl : Int) := by omega
            go_wp2_with fail
            refine hQ.mono ?_
            rintro e w4 ⟨rfl, hN4⟩
            go_wp2_with fail
            have hC := IH.out (mid - a) (by have := hL.out; omega) g n cap a mid l1 d4 w4 rfl hN4.row q1 (by omega) hn hl1 (pre_left HB4.out q2)
            refine hC.mono ?_
            rintro e w5 ⟨rfl, d5, p1, s1, hN5⟩
            obtain ⟨e1, e2⟩ := ends_left hE3.out Q3.out (by omega) q1 q2 Q4.out Q5.out p1 s1
            have E1 : Hid _ := e1
            have E2 : Hid _ := e2
            clear e1 e2 p1 s1 hC
            go_wp2
            exact ⟨⟨mid + 1, b, l1, _, ap, d5, by go_num, rfl, rfl, rfl, rfl, by omega, by omega, hbB, hl1, (hNd.trans hN4).trans hN5, E1, E2⟩, by simp [intOf]; omega⟩
          · have hlr' : decide ((ll : Int) < (rl : Int)) = false := decide_eq_false (by omega)
            have hlr'' : (rl : Int) ≤ (ll : Int) := by omega
            have hC := fun w4 hR4 => IH.out (b - (mid + 1)) (by have := hL.out; omega) g n cap (mid + 1) b l1 d4 w4 rfl hR4 (by omega) (by omega) hn hl1 (pre_right Q5.out)
            simp only [show ((mid + 1 : Nat) : Int) = (mid : Int) + 1 by omega] at hC
            go_wp2_with fail
            refine hQ.mono ?_
            rintro e w4 ⟨rfl, hN4⟩
            go_wp2_with fail
            refine (hC w4 hN4.row).mono ?_
            rintro e w5 ⟨rfl, d5, p1, s1, hN5⟩
            obtain ⟨e1, e2⟩ := ends_right hE3.out Q3.out (by omega) q1 q2 Q4.out Q5.out HB4.out p1 s1
            have E1 : Hid _ := e1
            have E2 : Hid _ := e2
            clear e1 e2 p1 s1 hC
            go_wp2
            exact ⟨⟨a, mid, l1, _, ap, d5, rfl, rfl, rfl, rfl, rfl, hAa, q1, by omega, hl1, (hNd.trans hN4).trans hN5, E1, E2⟩, by simp [intOf]; omega⟩
        · have ha0' : (0 : Int) < (a : Int) := by omega
          have ha0n : 0 < a := by omega
          obtain ⟨G, HG⟩ : ∃ G : Nat → Nat, Hid (∀ t, G t = d3[t]!) := ⟨fun t => d3[t]!, fun _ => rfl⟩
          have x0 : wc.cell? ⟨g, a - 1, none⟩ = some (.int .u64 (G (a - 1) : Nat)) := by rw [HG.out]; exact hN3.row.cell (a - 1) (by omega)
          have x1 : wc.cell? ⟨g, pv, none⟩ = some (.int .u64 (G pv : Nat)) := by rw [HG.out]; exact hN3.row.cell pv (by omega)
          have ha1 : (1 : Int) ≤ (a : Int) := by omega
          have han : (a : Int) ≤ (n : Int) := by omega
          have hpn : (pv : Int) < (n : Int) := by omega
          go_wp2_with fail
          go_quiet (first | (go_at_call 45; refine Calls.quiet_of_same (less_any _ _ _)))
          cases hl : ltN (G (a - 1)) (G pv)
          · have hmin : ∀ i, a ≤ i → i < b → ltN d3[i]! d3[pv]! = false := by
              intro i hi hib
              rw [HG.out, HG.out, lt_no] at hl
              rcases hB3.out with h | h
              · omega
              · have := lt_no.1 (h i hi hib)
                rw [lt_no]
                omega
            have hQ := partEq_any g n cap a b pv d3 (wc.drewN nq) (hN3.row.drewN nq) (by omega) (by omega) hn hpv.1 hpv.2
            obtain ⟨q1, q2, q3, q4, q5⟩ := partitionEqual_holds ltN swoN d3 a b pv hpv.1 hpv.2 (by omega) hmin
            have hmin4 := permIn_all d3 _ a b (fun x => ltN x d3[pv]! = false) (by omega) q3 hmin
            generalize partitionEqual ltN d3 a b pv = pr at *
            obtain ⟨mid, d4⟩ := pr
            simp only at hQ q1 q2 q3 q4 q5 hmin4
            have hz4 : d4.size = d3.size := q3.1
            obtain ⟨e1, e2⟩ := ends_eq hE3.out q3 (by omega) q1 q2 (pv := d3[pv]!) (fun i hi hib => lt_no.1 (hmin4 i hi hib)) (fun i hi him => lt_no.1 (q4 i hi him)) (fun i hi hib => lt_yes.1 (q5 i hi hib))
            have E1 : Hid _ := e1
            have E2 : Hid _ := e2
            clear e1 e2 hmin hmin4 q3 q4 q5
            go_wp2_with fail
            refine hQ.mono ?_
            rintro e w4 ⟨rfl, hN4⟩
            go_wp2
            exact ⟨⟨mid, b, l1, wb, wp, d4, rfl, rfl, rfl, rfl, rfl, by omega, by omega, hbB, hl1, (hN3.drewN _).trans hN4, E1, E2⟩, by simp [intOf]; omega⟩
          · clear hl x0 x1
            have hQ := part_any g n cap a b pv d3 (wc.drewN nq) (hN3.row.drewN nq) (by omega) (by omega) hn hpv.1 hpv.2
            obtain ⟨q1, q2, q3, q4, q5⟩ := partition_holds ltN swoN d3 a b pv hpv.1 hpv.2 (by omega)
            have hB4 := below_perm hB3.out q3 (by omega)
            generalize partition ltN d3 a b pv = pr at *
            obtain ⟨mid, ap, d4⟩ := pr
            simp only at hQ q1 q2 q3 q4 q5 hB4
            have hz4 : d4.size = d3.size := q3.1
            have Q3 : Hid (PermIn a b d3 d4) := q3
            have Q4 : Hid (∀ i, a ≤ i → i < mid → d4[i]! < d4[mid]!) := fun i hi him => lt_yes.1 (q4 i hi him)
            have Q5 : Hid (∀ i, mid < i → i < b → d4[mid]! ≤ d4[i]!) := fun i hi hib => lt_no.1 (q5 i hi hib)
            have HB4 : Hid (Sort.Below ltN a b d4) := hB4
            clear q3 q4 q5 hB4
            obtain ⟨ll, hll⟩ : ∃ ll : Nat, Hid (ll = mid - a) := ⟨_, rfl⟩
            obtain ⟨rl, hrl⟩ : ∃ rl : Nat, Hid (rl = b - mid) := ⟨_, rfl⟩
            have ell : (mid : Int) - (a : Int) = (ll : Int) := by have := hll.out; omega
            have erl : (b : Int) - (mid : Int) = (rl : Int) := by have := hrl.out; omega
            have hNd := hN3.drewN nq
            by_cases hlr : ll < rl
            · have hlr' : (ll : Int) < (rl : Int) := by omega
              go_wp2_with fail
              refine hQ.mono ?_
              rintro e w4 ⟨rfl, hN4⟩
              go_wp2_with fail
              have hC := IH.out (mid - a) (by have := hL.out; omega) g n cap a mid l1 d4 w4 rfl hN4.row q1 (by omega) hn hl1 (pre_left HB4.out q2)
              refine hC.mono ?_
              rintro e w5 ⟨rfl, d5, p1, s1, hN5⟩
              obtain ⟨e1, e2⟩ := ends_left hE3.out Q3.out (by omega) q1 q2 Q4.out Q5.out p1 s1
              have E1 : Hid _ := e1
              have E2 : Hid _ := e2
              clear e1 e2 p1 s1 hC
              go_wp2
              exact ⟨⟨mid + 1, b, l1, _, ap, d5, by go_num, rfl, rfl, rfl, rfl, by omega, by omega, hbB, hl1, (hNd.trans hN4).trans hN5, E1, E2⟩, by simp [intOf]; omega⟩
            · have hlr' : decide ((ll : Int) < (rl : Int)) = false := decide_eq_false (by omega)
              have hlr'' : (rl : Int) ≤ (ll : Int) := by omega
              have hC := fun w4 hR4 => IH.out (b - (mid + 1)) (by have := hL.out; omega) g n cap (mid + 1) b l1 d4 w4 rfl hR4 (by omega) (by omega) hn hl1 (pre_right Q5.out)
              simp only [show ((mid + 1 : Nat) : Int) = (mid : Int) + 1 by omega] at hC
              go_wp2_with fail
              refine hQ.mono ?_
              rintro e w4 ⟨rfl, hN4⟩
              go_wp2_with fail
              refine (hC w4 hN4.row).mono ?_
              rintro e w5 ⟨rfl, d5, p1, s1, hN5⟩
              obtain ⟨e1, e2⟩ := ends_right hE3.out Q3.out (by omega) q1 q2 Q4.out Q5.out HB4.out p1 s1
              have E1 : Hid _ := e1
              have E2 : Hid _ := e2
              clear e1 e2 p1 s1 hC
              go_wp2
              exact ⟨⟨a, mid, l1, _, ap, d5, rfl, rfl, rfl, rfl, rfl, hAa, q1, by omega, hl1, (hNd.trans hN4).trans hN5, E1, E2⟩, by simp [intOf]; omega⟩
end Go.Proofs.Ytaikeeidjfcijaa
