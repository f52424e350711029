/- Which steps may be: the program's small functions and the document's; May of both. -/
import Derived.Test.YtnkanaccacephaaSM3
import Derived.Test.YtnkanaccacephaaSW0
namespace Go.Proofs.Ytnkanaccacephaa
open Go.RowKit

/-- Steps as cells. -/
def stC (s : Stp) : List Value := [.int .i64 s.k, .int .i64 s.n, .int .i64 s.v]
def sCells (l : List Stp) : List Value := l.flatMap stC
def stV (s : Stp) : Value := .agg #[.int .i64 s.k, .int .i64 s.n, .int .i64 s.v]

theorem sCells_len (l : List Stp) : (sCells l).length = l.length * 3 := by
  unfold sCells
  induction l with
  | nil => rfl
  | cons x r ih => rw [List.flatMap_cons, List.length_append, ih, List.length_cons]; simp [stC]; omega
theorem sCells_app (l m : List Stp) : sCells l ++ sCells m = sCells (l ++ m) := by simp [sCells]
theorem stC_one (s : Stp) : ∀ u ∈ stC s, u.oneCell' = true := by
  intro u hu
  simp [stC] at hu
  rcases hu with rfl | rfl | rfl <;> rfl
theorem sCells_one (l : List Stp) : ∀ u ∈ sCells l, u.oneCell' = true := by
  intro u hu
  obtain ⟨s, _, h⟩ := List.mem_flatMap.1 hu
  exact stC_one s u h
theorem sCells_at : ∀ (l : List Stp) (i : Nat), i < l.length → (sCells l)[i * 3]? = some (.int .i64 (l.getD i default).k) ∧ (sCells l)[i * 3 + 1]? = some (.int .i64 (l.getD i default).n) ∧ (sCells l)[i * 3 + 2]? = some (.int .i64 (l.getD i default).v)
  | [], i, h => absurd h (Nat.not_lt_zero i)
  | t :: ts, 0, _ => ⟨rfl, rfl, rfl⟩
  | t :: ts, i + 1, h => by
    have ih := sCells_at ts i (by simpa using h)
    simp only [sCells, List.flatMap_cons, List.getD_cons_succ] at *
    rw [List.getElem?_append_right (by simp [stC]; omega), List.getElem?_append_right (by simp [stC]; omega), List.getElem?_append_right (by simp [stC]; omega), show (stC t).length = 3 from rfl, show (i + 1) * 3 - 3 = i * 3 by omega, show (i + 1) * 3 + 1 - 3 = i * 3 + 1 by omega, show (i + 1) * 3 + 2 - 3 = i * 3 + 2 by omega]
    exact ih

/-- The step that lies at a place of a row. -/
theorem step_at {w : World} {a : Option Addr} {l : List Stp} (h : Rd w a (sCells l)) (i : Nat) (hi : i < l.length) : ∃ b o, a = some ⟨b, o, none⟩ ∧ w.cell? ⟨b, o + i * 3, none⟩ = some (.int .i64 (l.getD i default).k) ∧ w.cell? ⟨b, o + i * 3 + 1, none⟩ = some (.int .i64 (l.getD i default).n) ∧ w.cell? ⟨b, o + i * 3 + 2, none⟩ = some (.int .i64 (l.getD i default).v) := by
  obtain ⟨h0, h1, h2⟩ := sCells_at l i hi
  obtain ⟨b, o, e, c0⟩ := h _ _ h0
  obtain ⟨b1, o1, e1, c1⟩ := h _ _ h1
  obtain ⟨b2, o2, e2, c2⟩ := h _ _ h2
  rw [e] at e1 e2
  cases e1
  cases e2
  exact ⟨b, o, e, c0, by rw [Nat.add_assoc]; exact c1, by rw [Nat.add_assoc]; exact c2⟩

theorem may_at : ∀ (l : List Stp) (s : Int) (i : Nat), i < l.length → (∀ j, j < i → faultS (l.getD j default) = 0) → faultS (l.getD i default) ≠ 0 → mayFrom l s = (faultS (l.getD i default), s + i)
  | [], _, i, h, _, _ => absurd h (Nat.not_lt_zero i)
  | x :: r, s, 0, _, _, h => by
    unfold mayFrom
    simp only [List.getD_cons_zero] at h ⊢
    rw [if_pos h]
    simp
  | x :: r, s, i + 1, hi, hb, h => by
    have h0 : faultS x = 0 := by
      have := hb 0 (by omega)
      simpa using this
    have ih := may_at r (s + 1) i (by simpa using hi) (fun j hj => by simpa using hb (j + 1) (by omega)) (by simpa using h)
    unfold mayFrom
    rw [if_neg (by simp [h0]), ih]
    simp only [List.getD_cons_succ, Prod.mk.injEq, true_and]
    omega
theorem may_none : ∀ (l : List Stp) (s : Int), (∀ j, j < l.length → faultS (l.getD j default) = 0) → mayFrom l s = (0, 0)
  | [], _, _ => rfl
  | x :: r, s, h => by
    have h0 : faultS x = 0 := by simpa using h 0 (by simp)
    unfold mayFrom
    rw [if_neg (by simp [h0])]
    exact may_none r (s + 1) (fun j hj => by simpa using h (j + 1) (by simpa using hj))

set_option maxRecDepth 100000 in
theorem known_any (k : Int) (b : Bool) (hb : b = (decide (1 ≤ k) && decide (k ≤ 3))) (w : World) :
    Calls Try.prog 29 #[.int .i64 k] w fun e w' => e = .returned (.bool b) ∧ w' = w := by
  by_cases h1 : k = 1
  · subst h1 hb
    go_enter Try.func29, Try.ntmps29
    go_wp2
    go_ret
    exact ⟨rfl, rfl⟩
  · by_cases h2 : k = 2
    · subst h2 hb
      go_enter Try.func29, Try.ntmps29
      go_wp2
      go_ret
      exact ⟨rfl, rfl⟩
    · by_cases h3 : k = 3
      · subst h3 hb
        go_enter Try.func29, Try.ntmps29
        go_wp2
        go_ret
        exact ⟨rfl, rfl⟩
      · obtain rfl : b = false := by rw [hb]; simp; omega
        have d1 : (k == 1) = false := by simpa using h1
        have d2 : (k == 2) = false := by simpa using h2
        have d3 : (k == 3) = false := by simpa using h3
        clear hb
        go_enter Try.func29, Try.ntmps29
        go_wp2
        go_ret
        exact ⟨rfl, rfl⟩

set_option maxRecDepth 100000 in
theorem hasV_any (k : Int) (w : World) :
    Calls Try.prog 21 #[.int .i64 k] w fun e w' => e = .returned (.bool (k == 2)) ∧ w' = w := by
  go_enter Try.func21, Try.ntmps21
  go_wp2
  go_ret
  exact ⟨rfl, rfl⟩

set_option maxRecDepth 100000 in
set_option maxHeartbeats 1000000 in
theorem fault_any (k n v : Int) (w : World) :
    Calls Try.prog 18 #[.agg #[.int .i64 k, .int .i64 n, .int .i64 v]] w fun e w' => e = .returned (.int .i64 (faultS ⟨k, n, v⟩)) ∧ Below w.heap.size w w' := by
  have HB := hd (below_al w (.cells #[.int .i64 k, .int .i64 n, .int .i64 v] 38))
  obtain ⟨E, hE⟩ : ∃ E, Hid (faultS ⟨k, n, v⟩ = E) := ⟨_, rfl⟩
  rw [hE.out]
  by_cases h1 : k < 1 ∨ 3 < k
  · obtain rfl : E = 1 := by rw [← hE.out, faultS, if_pos h1]
    have hk := known_any k false (by simp; omega)
    clear hE h1
    go_enter Try.func18, Try.ntmps18
    go_wp2_with (go_at_call 29; refine (hk _).mono ?_; rintro e w1 ⟨rfl, rfl⟩)
    go_ret
    exact ⟨rfl, HB.out⟩
  · have hk := known_any k true (by simp; omega)
    by_cases h2 : n < 0
    · obtain rfl : E = 2 := by rw [← hE.out, faultS, if_neg h1, if_pos (.inl h2)]
      clear hE h1
      go_enter Try.func18, Try.ntmps18
      go_wp2_with (go_at_call 29; refine (hk _).mono ?_; rintro e w1 ⟨rfl, rfl⟩)
      go_ret
      exact ⟨rfl, HB.out⟩
    · have d2 : decide (n < 0) = false := by simpa using h2
      by_cases h3 : 4294967295 < n
      · obtain rfl : E = 2 := by rw [← hE.out, faultS, if_neg h1, if_pos (.inr h3)]
        clear hE h1 h2
        go_enter Try.func18, Try.ntmps18
        go_wp2_with (go_at_call 29; refine (hk _).mono ?_; rintro e w1 ⟨rfl, rfl⟩)
        go_ret
        exact ⟨rfl, HB.out⟩
      · have d3 : decide (4294967295 < n) = false := by simpa using h3
        have hv := hasV_any k
        by_cases h4 : v = 0
        · obtain rfl : E = 0 := by rw [← hE.out, faultS, if_neg h1, if_neg (by simp only; omega), if_neg (fun h => h.1 h4)]
          subst h4
          clear hE h1 h2 h3 hv
          go_enter Try.func18, Try.ntmps18
          go_wp2_with (go_at_call 29; refine (hk _).mono ?_; rintro e w1 ⟨rfl, rfl⟩)
          go_ret
          exact ⟨rfl, HB.out⟩
        · have d4 : (v == 0) = false := by simpa using h4
          have d4' : (v != 0) = true := by simpa using h4
          by_cases h5 : k = 2
          · obtain rfl : E = 0 := by rw [← hE.out, faultS, if_neg h1, if_neg (by simp only; omega), if_neg (fun h => h.2 h5)]
            subst h5
            clear hE h1 h2 h3 h4
            go_enter Try.func18, Try.ntmps18
            go_wp2_with (first | (go_at_call 29; refine (hk _).mono ?_; rintro e w1 ⟨rfl, rfl⟩) | (go_at_call 21; refine (hv _).mono ?_; rintro e w1 ⟨rfl, rfl⟩))
            go_ret
            exact ⟨rfl, HB.out⟩
          · obtain rfl : E = 11 := by rw [← hE.out, faultS, if_neg h1, if_neg (by simp only; omega), if_pos ⟨h4, h5⟩]
            have d5 : (k == 2) = false := by simpa using h5
            rw [d5] at hv
            clear hE h1 h2 h3 h4 h5
            go_enter Try.func18, Try.ntmps18
            go_wp2_with (first | (go_at_call 29; refine (hk _).mono ?_; rintro e w1 ⟨rfl, rfl⟩) | (go_at_call 21; refine (hv _).mono ?_; rintro e w1 ⟨rfl, rfl⟩))
            go_ret
            exact ⟨rfl, HB.out⟩

set_option maxRecDepth 100000 in
set_option maxHeartbeats 1000000 in
theorem wrong_any (k n v : Int) (w : World) :
    Calls Try.prog 19 #[.agg #[.int .i64 k, .int .i64 n, .int .i64 v]] w fun e w' => e = .returned (.int .i64 (faultS ⟨k, n, v⟩)) ∧ Below w.heap.size w w' := by
  have HB := hd (below_al w (.cells #[.int .i64 k, .int .i64 n, .int .i64 v] 38))
  obtain ⟨E, hE⟩ : ∃ E, Hid (faultS ⟨k, n, v⟩ = E) := ⟨_, rfl⟩
  rw [hE.out]
  by_cases h0 : k < 1
  · obtain rfl : E = 1 := by rw [← hE.out, faultS, if_pos (.inl h0)]
    clear hE
    go_enter Try.func19, Try.ntmps19
    go_wp2
    go_ret
    exact ⟨rfl, HB.out⟩
  · have d0 : decide (k < 1) = false := by simpa using h0
    by_cases h1 : 3 < k
    · obtain rfl : E = 1 := by rw [← hE.out, faultS, if_pos (.inr h1)]
      clear hE h0
      go_enter Try.func19, Try.ntmps19
      go_wp2
      go_ret
      exact ⟨rfl, HB.out⟩
    · have d1 : decide (3 < k) = false := by simpa using h1
      by_cases h2 : n < 0
      · obtain rfl : E = 2 := by rw [← hE.out, faultS, if_neg (by simp only; omega), if_pos (.inl h2)]
        clear hE h0 h1
        go_enter Try.func19, Try.ntmps19
        go_wp2
        go_ret
        exact ⟨rfl, HB.out⟩
      · have d2 : decide (n < 0) = false := by simpa using h2
        by_cases h3 : 4294967296 ≤ n
        · obtain rfl : E = 2 := by rw [← hE.out, faultS, if_neg (by simp only; omega), if_pos (by simp only; omega)]
          clear hE h0 h1 h2
          go_enter Try.func19, Try.ntmps19
          go_wp2
          go_ret
          exact ⟨rfl, HB.out⟩
        · have d3 : decide (4294967296 ≤ n) = false := by simpa using h3
          by_cases h5 : k = 2
          · obtain rfl : E = 0 := by rw [← hE.out, faultS, if_neg (by simp only; omega), if_neg (by simp only; omega), if_neg (fun h => h.2 h5)]
            subst h5
            clear hE h0 h1 h2 h3
            go_enter Try.func19, Try.ntmps19
            go_wp2
            go_ret
            exact ⟨rfl, HB.out⟩
          · have d5 : (k != 2) = true := by simpa using h5
            by_cases h4 : v = 0
            · obtain rfl : E = 0 := by rw [← hE.out, faultS, if_neg (by simp only; omega), if_neg (by simp only; omega), if_neg (fun h => h.1 h4)]
              subst h4
              clear hE h0 h1 h2 h3 h5
              go_enter Try.func19, Try.ntmps19
              go_wp2
              go_ret
              exact ⟨rfl, HB.out⟩
            · obtain rfl : E = 11 := by rw [← hE.out, faultS, if_neg (by simp only; omega), if_neg (by simp only; omega), if_pos ⟨h4, h5⟩]
              have d4 : (v != 0) = true := by simpa using h4
              clear hE h0 h1 h2 h3 h4 h5
              go_enter Try.func19, Try.ntmps19
              go_wp2
              go_ret
              exact ⟨rfl, HB.out⟩

set_option maxRecDepth 100000 in
set_option maxHeartbeats 2000000 in
theorem may_any (a : Option Addr) (cap : Nat) (l : List Stp) (w : World) (hP : Rd w a (sCells l)) (hcap : l.length ≤ 9223372036854775807) :
    Calls Try.prog 9 #[.slice a l.length cap] w fun e w' => e = .returned (.tuple #[.int .i64 (mayS l).1, .int .i64 (mayS l).2]) ∧ Below w.heap.size w w' := by
  by_cases h3 : 1024 < l.length
  · have e : mayS l = (3, 1024) := by unfold mayS; rw [if_pos h3]
    rw [e]
    have d3 : (1024 : Int) < (l.length : Int) := by omega
    clear e hP
    go_enter Try.func9, Try.ntmps9
    go_wp2
    go_ret2
    exact ⟨rfl, Below.refl _ _⟩
  · have e : mayS l = mayFrom l 0 := by unfold mayS; rw [if_neg h3]
    rw [e]
    have hlen : l.length ≤ 1024 := by omega
    have d3 : decide ((1024 : Int) < (l.length : Int)) = false := by simp; omega
    obtain ⟨R, hR⟩ : ∃ R, Hid (mayFrom l 0 = R) := ⟨_, rfl⟩
    rw [hR.out]
    have HP := hd hP
    clear e hP h3 hcap
    go_enter Try.func9, Try.ntmps9
    go_wp2_with fail
    go_loopg [4, 5, 6, 12, 13, 14, 15, 16, 17, 18, 19, 20, 21, 22, 23] l.length (fun g v4 v5 v6 v12 v13 v14 v15 v16 v17 v18 v19 v20 v21 v22 v23 wr => ∃ i : Nat, i + g = l.length ∧ v12 = .int .i64 (i : Int) ∧ Hid (∀ j, j < i → faultS (l.getD j default) = 0) ∧ Below w.heap.size w wr)
    case atStart => exact ⟨0, by omega, by go_num, hd (fun j hj => absurd hj (Nat.not_lt_zero j)), Below.refl _ _⟩
    case round =>
      obtain ⟨i, hi, rfl, hall, hbr⟩ := hrel
      by_cases hlt : i < l.length
      · have hlt' : (i : Int) < (l.length : Int) := by omega
        obtain ⟨b, off, rfl, k0, k1, k2⟩ := step_at (HP.out.below hbr) i hlt
        have hck := hd (fault_any (l.getD i default).k (l.getD i default).n (l.getD i default).v)
        by_cases hw : faultS (l.getD i default) = 0
        · have hall' : Hid (∀ j, j < i + 1 → faultS (l.getD j default) = 0) := hd (fun j hj => by
            by_cases e : j = i
            · rw [e]; exact hw
            · exact hall.out j (by omega))
          have hck : Hid (∀ W : World, Calls Try.prog 18 #[.agg #[.int .i64 (l.getD i default).k, .int .i64 (l.getD i default).n, .int .i64 (l.getD i default).v]] W fun e w' => e = .returned (.int .i64 0) ∧ Below W.heap.size W w') := hd (fun W => (hck.out W).mono fun e w' ⟨h1, h2⟩ => ⟨by rw [h1, show faultS ⟨(l.getD i default).k, (l.getD i default).n, (l.getD i default).v⟩ = 0 from hw], h2⟩)
          clear hw hall HP
          generalize (l.getD i default).k = x at *
          generalize (l.getD i default).n = y at *
          generalize (l.getD i default).v = z at *
          have hba := hbr.alloc hbr.size (.cells #[.int .i64 x, .int .i64 y, .int .i64 z] 38)
          replace hba := hd hba
          replace hbr := hd hbr
          go_upto_region 6 with fail
          have hc := hck.out (wr.alloc (.cells #[.int .i64 x, .int .i64 y, .int .i64 z] 38))
          go_wp2_with (go_at_call 18; refine hc.mono ?_; rintro e w1 ⟨rfl, b1⟩; replace b1 := hd b1)
          go_roundg (gk - 1)
          case rel => exact ⟨i + 1, by omega, by go_num, hall', hba.out.trans (b1.out.mono hba.out.size)⟩
          case measure => omega
        · have hfin : Hid (R = (faultS (l.getD i default), (i : Int))) := hd (by
            rw [← hR.out, may_at l 0 i hlt hall.out hw, Int.zero_add])
          have hck : Hid (∀ W : World, Calls Try.prog 18 #[.agg #[.int .i64 (l.getD i default).k, .int .i64 (l.getD i default).n, .int .i64 (l.getD i default).v]] W fun e w' => e = .returned (.int .i64 (faultS (l.getD i default))) ∧ Below W.heap.size W w') := hck
          generalize faultS (l.getD i default) = E at *
          have dE : (E == 0) = false := by simpa using hw
          clear hw hall HP hR
          generalize (l.getD i default).k = x at *
          generalize (l.getD i default).n = y at *
          generalize (l.getD i default).v = z at *
          have hba := hbr.alloc hbr.size (.cells #[.int .i64 x, .int .i64 y, .int .i64 z] 38)
          replace hba := hd hba
          replace hbr := hd hbr
          go_upto_region 6 with fail
          have hc := hck.out (wr.alloc (.cells #[.int .i64 x, .int .i64 y, .int .i64 z] 38))
          go_wp2_with (go_at_call 18; refine hc.mono ?_; rintro e w1 ⟨rfl, b1⟩; replace b1 := hd b1)
          go_ret2
          exact ⟨by rw [hfin.out]; rfl, hba.out.trans (b1.out.mono hba.out.size)⟩
      · have hltd : decide ((i : Int) < (l.length : Int)) = false := by simp; omega
        have hge : (l.length : Int) ≤ (i : Int) := by omega
        have hfin : Hid (R = (0, 0)) := hd (by rw [← hR.out, may_none l 0 (fun j hj => hall.out j (by omega))])
        clear hall hR HP
        replace hbr := hd hbr
        go_wp2_with fail
        go_ret2
        exact ⟨by rw [hfin.out]; rfl, hbr.out⟩

set_option maxRecDepth 100000 in
set_option maxHeartbeats 2000000 in
theorem rmay_any (a : Option Addr) (cap : Nat) (l : List Stp) (w : World) (hP : Rd w a (sCells l)) (hcap : l.length ≤ 9223372036854775807) :
    Calls Try.prog 10 #[.slice a l.length cap] w fun e w' => e = .returned (.tuple #[.int .i64 (mayS l).1, .int .i64 (mayS l).2]) ∧ Below w.heap.size w w' := by
  by_cases h3 : 1024 < l.length
  · have e : mayS l = (3, 1024) := by unfold mayS; rw [if_pos h3]
    rw [e]
    have d3 : (1024 : Int) < (l.length : Int) := by omega
    clear e hP
    go_enter Try.func10, Try.ntmps10
    go_wp2
    go_ret2
    exact ⟨rfl, Below.refl _ _⟩
  · have e : mayS l = mayFrom l 0 := by unfold mayS; rw [if_neg h3]
    rw [e]
    have hlen : l.length ≤ 1024 := by omega
    have d3 : decide ((1024 : Int) < (l.length : Int)) = false := by simp; omega
    obtain ⟨R, hR⟩ : ∃ R, Hid (mayFrom l 0 = R) := ⟨_, rfl⟩
    rw [hR.out]
    have HP := hd hP
    clear e hP h3 hcap
    go_enter Try.func10, Try.ntmps10
    go_wp2_with fail
    go_loopg [4, 5, 9, 10, 11, 12, 13, 14, 15, 16, 17, 18, 19, 20, 21, 22, 23] l.length (fun g v4 v5 v9 v10 v11 v12 v13 v14 v15 v16 v17 v18 v19 v20 v21 v22 v23 wr => ∃ i : Nat, i + g = l.length ∧ v4 = .int .i64 (i : Int) ∧ Hid (∀ j, j < i → faultS (l.getD j default) = 0) ∧ Below w.heap.size w wr)
    case atStart => exact ⟨0, by omega, by go_num, hd (fun j hj => absurd hj (Nat.not_lt_zero j)), Below.refl _ _⟩
    case round =>
      obtain ⟨i, hi, rfl, hall, hbr⟩ := hrel
      by_cases hlt : i < l.length
      · have hlt' : (i : Int) < (l.length : Int) := by omega
        obtain ⟨b, off, rfl, k0, k1, k2⟩ := step_at (HP.out.below hbr) i hlt
        have hck := wrong_any (l.getD i default).k (l.getD i default).n (l.getD i default).v wr
        by_cases hw : faultS (l.getD i default) = 0
        · have hall' : Hid (∀ j, j < i + 1 → faultS (l.getD j default) = 0) := hd (fun j hj => by
            by_cases e : j = i
            · rw [e]; exact hw
            · exact hall.out j (by omega))
          rw [show faultS ⟨(l.getD i default).k, (l.getD i default).n, (l.getD i default).v⟩ = 0 from hw] at hck
          clear hw hall HP
          generalize (l.getD i default).k = x at *
          generalize (l.getD i default).n = y at *
          generalize (l.getD i default).v = z at *
          replace hbr := hd hbr
          go_wp2_with (go_at_call 19; refine hck.mono ?_; rintro e w1 ⟨rfl, b1⟩; replace b1 := hd b1)
          go_roundg (gk - 1)
          case rel => exact ⟨i + 1, by omega, by go_num, hall', hbr.out.trans (b1.out.mono hbr.out.size)⟩
          case measure => omega
        · have hfin : Hid (R = (faultS (l.getD i default), (i : Int))) := hd (by
            rw [← hR.out, may_at l 0 i hlt hall.out hw, Int.zero_add])
          have hck : Calls Try.prog 19 #[.agg #[.int .i64 (l.getD i default).k, .int .i64 (l.getD i default).n, .int .i64 (l.getD i default).v]] wr fun e w' => e = .returned (.int .i64 (faultS (l.getD i default))) ∧ Below wr.heap.size wr w' := hck
          generalize faultS (l.getD i default) = E at *
          have dE : (E == 0) = false := by simpa using hw
          have dE' : (E != 0) = true := by simpa using hw
          clear hw hall HP hR
          generalize (l.getD i default).k = x at *
          generalize (l.getD i default).n = y at *
          generalize (l.getD i default).v = z at *
          replace hbr := hd hbr
          go_wp2_with (go_at_call 19; refine hck.mono ?_; rintro e w1 ⟨rfl, b1⟩; replace b1 := hd b1)
          go_ret2
          exact ⟨by rw [hfin.out]; rfl, hbr.out.trans (b1.out.mono hbr.out.size)⟩
      · have hltd : decide ((i : Int) < (l.length : Int)) = false := by simp; omega
        have hge : (l.length : Int) ≤ (i : Int) := by omega
        have hfin : Hid (R = (0, 0)) := hd (by rw [← hR.out, may_none l 0 (fun j hj => hall.out j (by omega))])
        clear hall hR HP
        replace hbr := hd hbr
        go_wp2_with fail
        go_ret2
        exact ⟨by rw [hfin.out]; rfl, hbr.out⟩
end Go.Proofs.Ytnkanaccacephaa
