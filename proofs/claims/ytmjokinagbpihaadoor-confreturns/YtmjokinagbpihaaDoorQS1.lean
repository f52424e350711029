/- Lists held against each other. -/
import Derived.Test.YtmjokinagbpihaaDoorQE2
namespace Go.Proofs.YtmjokinagbpihaaDoor
open Go.RowKit

theorem eq_lists {α : Type} [BEq α] [LawfulBEq α] [Inhabited α] (l m : List α) (h : l.length = m.length) (he : ∀ j, j < l.length → l.getD j default = m.getD j default) : (l == m) = true := by
  rw [beq_iff_eq]
  apply List.ext_getElem? 
  intro j
  by_cases hj : j < l.length
  · have := he j hj
    rw [List.getD_eq_getElem?_getD, List.getD_eq_getElem?_getD, List.getElem?_eq_getElem hj, List.getElem?_eq_getElem (by omega)] at this
    rw [List.getElem?_eq_getElem hj, List.getElem?_eq_getElem (by omega)]
    simpa using this
  · rw [List.getElem?_eq_none (by omega), List.getElem?_eq_none (by omega)]
theorem ne_lists {α : Type} [BEq α] [LawfulBEq α] [Inhabited α] (l m : List α) (j : Nat) (he : l.getD j default ≠ m.getD j default) : (l == m) = false := by
  rw [beq_eq_false_iff_ne]
  intro e
  rw [e] at he
  exact he rfl
theorem ne_len {α : Type} [BEq α] [LawfulBEq α] (l m : List α) (h : l.length ≠ m.length) : (l == m) = false := by
  rw [beq_eq_false_iff_ne]
  intro e
  rw [e] at h
  exact h rfl


set_option maxRecDepth 100000 in
set_option maxHeartbeats 1000000 in
theorem eqU_any (a b : Option Addr) (c1 c2 : Nat) (l m : List Nat) (w : World) (h1 : Rd w a (labC l)) (h2 : Rd w b (labC m)) (hl : l.length ≤ 1000000000000000) :
    Calls Tryd.prog 40 #[.slice a l.length c1, .slice b m.length c2] w fun e w' => e = .returned (.bool (l == m)) ∧ ∃ n, w' = w.drewN n := by
  obtain ⟨r, hr⟩ : ∃ r, Hid ((l == m) = r) := ⟨_, rfl⟩
  rw [hr.out]
  by_cases hlen : l.length = m.length
  · have H1 : Hid (∀ i, i < l.length → ∃ b o, a = some ⟨b, o, none⟩ ∧ w.cell? ⟨b, o + i, none⟩ = some (.int .u64 (((l.getD i 0) : Nat) : Int))) := hd (fun i hi => h1 i _ (labC_at l i hi))
    have H2 : Hid (∀ i, i < l.length → ∃ x o, b = some ⟨x, o, none⟩ ∧ w.cell? ⟨x, o + i, none⟩ = some (.int .u64 (((m.getD i 0) : Nat) : Int))) := hd (fun i hi => h2 i _ (labC_at m i (by omega)))
    have HR : Hid ((∀ j, j < l.length → l.getD j 0 = m.getD j 0) → r = true) := hd (fun h => by rw [← hr.out]; exact eq_lists l m hlen h)
    have HN : Hid (∀ j, l.getD j 0 ≠ m.getD j 0 → r = false) := hd (fun j h => by rw [← hr.out]; exact ne_lists l m j h)
    rw [← hlen]
    clear h1 h2 hr hlen
    generalize l.length = len at *
    go_enter Tryd.func40, Tryd.ntmps40
    go_wp2_with fail
    go_loopg [5, 13, 14, 15, 16, 17, 18, 19, 20, 21, 22, 23, 24, 25] len (fun g v5 v13 v14 v15 v16 v17 v18 v19 v20 v21 v22 v23 v24 v25 wr => ∃ (i n : Nat), i + g = len ∧ v13 = .int .i64 (i : Int) ∧ wr = w.drewN n ∧ Hid (∀ j, j < i → l.getD j 0 = m.getD j 0))
    case atStart => exact ⟨0, 0, by omega, by go_num, rfl, hd (fun j hj => by omega)⟩
    case round =>
      obtain ⟨i, n, hi, rfl, rfl, HA⟩ := hrel
      by_cases h0 : gk = 0
      · subst h0
        have hge : decide ((i : Int) < (len : Int)) = false := by simp; omega
        have hge' : (len : Int) ≤ (i : Int) := by omega
        obtain rfl : r = true := HR.out (fun j hj => HA.out j (by omega))
        go_wp2_with fail
        go_ret
        exact ⟨rfl, n, rfl⟩
      · have hlt : (i : Int) < (len : Int) := by omega
        obtain ⟨b1, o1, ea, x1⟩ := H1.out i (by omega)
        obtain ⟨b2, o2, eb, x2⟩ := H2.out i (by omega)
        have HS : Hid (l.getD i 0 = m.getD i 0 → ∀ j, j < i + 1 → l.getD j 0 = m.getD j 0) := hd (fun he j hj => by
          by_cases e : j = i
          · rw [e]; exact he
          · exact HA.out j (by omega))
        have HF := hd (HN.out i)
        clear HA H1 H2 HN HR
        subst ea eb
        generalize l.getD i 0 = x at *
        generalize m.getD i 0 = y at *
        by_cases he : x = y
        · subst he
          go_upto_region 6 with fail
          go_quiet (fail)
          go_wp2_with fail
          go_roundg (gk - 1)
          case rel => exact ⟨i + 1, n + nq, by omega, by go_num, by first | rfl | rw [World.drewN_drewN], hd (HS.out (by trivial))⟩
          case measure => omega
        · obtain rfl : r = false := HF.out he
          have he' : (((x : Nat) : Int) == ((y : Nat) : Int)) = false := by simp; omega
          clear HS HF he
          go_upto_region 6 with fail
          go_quiet (fail)
          go_wp2_with fail
          go_ret
          exact ⟨rfl, n + nq, by first | rfl | rw [World.drewN_drewN]⟩
  · obtain rfl : r = false := by rw [← hr.out]; exact ne_len l m hlen
    have hlen' : ((l.length : Int) == (m.length : Int)) = false := by simp; omega
    clear h1 h2 hr hlen
    generalize l.length = len at *
    generalize m.length = len2 at *
    go_enter Tryd.func40, Tryd.ntmps40
    go_wp2_with fail
    go_ret
    exact ⟨rfl, 0, rfl⟩

set_option maxRecDepth 100000 in
set_option maxHeartbeats 1000000 in
theorem eqI_any (a b : Option Addr) (c1 c2 : Nat) (l m : List Int) (w : World) (h1 : Rd w a (iC l)) (h2 : Rd w b (iC m)) (hl : l.length ≤ 1000000000000000) :
    Calls Tryd.prog 41 #[.slice a l.length c1, .slice b m.length c2] w fun e w' => e = .returned (.bool (l == m)) ∧ ∃ n, w' = w.drewN n := by
  obtain ⟨r, hr⟩ : ∃ r, Hid ((l == m) = r) := ⟨_, rfl⟩
  rw [hr.out]
  by_cases hlen : l.length = m.length
  · have H1 : Hid (∀ i, i < l.length → ∃ b o, a = some ⟨b, o, none⟩ ∧ w.cell? ⟨b, o + i, none⟩ = some (.int .i64 (l.getD i 0))) := hd (fun i hi => h1 i _ (iC_at l i hi))
    have H2 : Hid (∀ i, i < l.length → ∃ x o, b = some ⟨x, o, none⟩ ∧ w.cell? ⟨x, o + i, none⟩ = some (.int .i64 (m.getD i 0))) := hd (fun i hi => h2 i _ (iC_at m i (by omega)))
    have HR : Hid ((∀ j, j < l.length → l.getD j 0 = m.getD j 0) → r = true) := hd (fun h => by rw [← hr.out]; exact eq_lists l m hlen h)
    have HN : Hid (∀ j, l.getD j 0 ≠ m.getD j 0 → r = false) := hd (fun j h => by rw [← hr.out]; exact ne_lists l m j h)
    rw [← hlen]
    clear h1 h2 hr hlen
    generalize l.length = len at *
    go_enter Tryd.func41, Tryd.ntmps41
    go_wp2_with fail
    go_loopg [5, 13, 14, 15, 16, 17, 18, 19, 20, 21, 22, 23, 24, 25] len (fun g v5 v13 v14 v15 v16 v17 v18 v19 v20 v21 v22 v23 v24 v25 wr => ∃ (i n : Nat), i + g = len ∧ v13 = .int .i64 (i : Int) ∧ wr = w.drewN n ∧ Hid (∀ j, j < i → l.getD j 0 = m.getD j 0))
    case atStart => exact ⟨0, 0, by omega, by go_num, rfl, hd (fun j hj => by omega)⟩
    case round =>
      obtain ⟨i, n, hi, rfl, rfl, HA⟩ := hrel
      by_cases h0 : gk = 0
      · subst h0
        have hge : decide ((i : Int) < (len : Int)) = false := by simp; omega
        have hge' : (len : Int) ≤ (i : Int) := by omega
        obtain rfl : r = true := HR.out (fun j hj => HA.out j (by omega))
        go_wp2_with fail
        go_ret
        exact ⟨rfl, n, rfl⟩
      · have hlt : (i : Int) < (len : Int) := by omega
        obtain ⟨b1, o1, ea, x1⟩ := H1.out i (by omega)
        obtain ⟨b2, o2, eb, x2⟩ := H2.out i (by omega)
        have HS : Hid (l.getD i 0 = m.getD i 0 → ∀ j, j < i + 1 → l.getD j 0 = m.getD j 0) := hd (fun he j hj => by
          by_cases e : j = i
          · rw [e]; exact he
          · exact HA.out j (by omega))
        have HF := hd (HN.out i)
        clear HA H1 H2 HN HR
        subst ea eb
        generalize l.getD i 0 = x at *
        generalize m.getD i 0 = y at *
        by_cases he : x = y
        · subst he
          go_upto_region 6 with fail
          go_quiet (fail)
          go_wp2_with fail
          go_roundg (gk - 1)
          case rel => exact ⟨i + 1, n + nq, by omega, by go_num, by first | rfl | rw [World.drewN_drewN], hd (HS.out (by trivial))⟩
          case measure => omega
        · obtain rfl : r = false := HF.out he
          have he' : (x == y) = false := by simp; omega
          clear HS HF he
          go_upto_region 6 with fail
          go_quiet (fail)
          go_wp2_with fail
          go_ret
          exact ⟨rfl, n + nq, by first | rfl | rw [World.drewN_drewN]⟩
  · obtain rfl : r = false := by rw [← hr.out]; exact ne_len l m hlen
    have hlen' : ((l.length : Int) == (m.length : Int)) = false := by simp; omega
    clear h1 h2 hr hlen
    generalize l.length = len at *
    generalize m.length = len2 at *
    go_enter Tryd.func41, Tryd.ntmps41
    go_wp2_with fail
    go_ret
    exact ⟨rfl, 0, rfl⟩

set_option maxRecDepth 100000 in
set_option maxHeartbeats 1000000 in
theorem sameL_any (a b : Option Addr) (c1 c2 : Nat) (l m : List Nat) (w : World) (h1 : Rd w a (labC l)) (h2 : Rd w b (labC m)) (hl : l.length ≤ 1000000000000000) :
    Calls Tryd.prog 44 #[.slice a l.length c1, .slice b m.length c2] w fun e w' => e = .returned (.bool (l == m)) ∧ ∃ n, w' = w.drewN n := by
  obtain ⟨r, hr⟩ : ∃ r, Hid ((l == m) = r) := ⟨_, rfl⟩
  rw [hr.out]
  by_cases hlen : l.length = m.length
  · have H1 : Hid (∀ i, i < l.length → ∃ b o, a = some ⟨b, o, none⟩ ∧ w.cell? ⟨b, o + i, none⟩ = some (.int .u64 (((l.getD i 0) : Nat) : Int))) := hd (fun i hi => h1 i _ (labC_at l i hi))
    have H2 : Hid (∀ i, i < l.length → ∃ x o, b = some ⟨x, o, none⟩ ∧ w.cell? ⟨x, o + i, none⟩ = some (.int .u64 (((m.getD i 0) : Nat) : Int))) := hd (fun i hi => h2 i _ (labC_at m i (by omega)))
    have HR : Hid ((∀ j, j < l.length → l.getD j 0 = m.getD j 0) → r = true) := hd (fun h => by rw [← hr.out]; exact eq_lists l m hlen h)
    have HN : Hid (∀ j, l.getD j 0 ≠ m.getD j 0 → r = false) := hd (fun j h => by rw [← hr.out]; exact ne_lists l m j h)
    rw [← hlen]
    clear h1 h2 hr hlen
    generalize l.length = len at *
    go_enter Tryd.func44, Tryd.ntmps44
    go_wp2_with fail
    go_loopg [5, 11, 12, 13, 14, 15, 16, 17, 18, 19, 20, 21, 22, 23, 24, 25] len (fun g v5 v11 v12 v13 v14 v15 v16 v17 v18 v19 v20 v21 v22 v23 v24 v25 wr => ∃ (i n : Nat), i + g = len ∧ v5 = .int .i64 (i : Int) ∧ wr = w.drewN n ∧ Hid (∀ j, j < i → l.getD j 0 = m.getD j 0))
    case atStart => exact ⟨0, 0, by omega, by go_num, rfl, hd (fun j hj => by omega)⟩
    case round =>
      obtain ⟨i, n, hi, rfl, rfl, HA⟩ := hrel
      by_cases h0 : gk = 0
      · subst h0
        have hge : decide ((i : Int) < (len : Int)) = false := by simp; omega
        have hge' : (len : Int) ≤ (i : Int) := by omega
        obtain rfl : r = true := HR.out (fun j hj => HA.out j (by omega))
        go_wp2_with fail
        go_ret
        exact ⟨rfl, n, rfl⟩
      · have hlt : (i : Int) < (len : Int) := by omega
        obtain ⟨b1, o1, ea, x1⟩ := H1.out i (by omega)
        obtain ⟨b2, o2, eb, x2⟩ := H2.out i (by omega)
        have HS : Hid (l.getD i 0 = m.getD i 0 → ∀ j, j < i + 1 → l.getD j 0 = m.getD j 0) := hd (fun he j hj => by
          by_cases e : j = i
          · rw [e]; exact he
          · exact HA.out j (by omega))
        have HF := hd (HN.out i)
        clear HA H1 H2 HN HR
        subst ea eb
        generalize l.getD i 0 = x at *
        generalize m.getD i 0 = y at *
        by_cases he : x = y
        · subst he
          go_upto_region 6 with fail
          go_quiet (fail)
          go_wp2_with fail
          go_roundg (gk - 1)
          case rel => exact ⟨i + 1, n + nq, by omega, by go_num, by first | rfl | rw [World.drewN_drewN], hd (HS.out (by trivial))⟩
          case measure => omega
        · obtain rfl : r = false := HF.out he
          have he' : (((x : Nat) : Int) == ((y : Nat) : Int)) = false := by simp; omega
          clear HS HF he
          go_upto_region 6 with fail
          go_quiet (fail)
          go_wp2_with fail
          go_ret
          exact ⟨rfl, n + nq, by first | rfl | rw [World.drewN_drewN]⟩
  · obtain rfl : r = false := by rw [← hr.out]; exact ne_len l m hlen
    have hlen' : ((l.length : Int) == (m.length : Int)) = false := by simp; omega
    clear h1 h2 hr hlen
    generalize l.length = len at *
    generalize m.length = len2 at *
    go_enter Tryd.func44, Tryd.ntmps44
    go_wp2_with fail
    go_ret
    exact ⟨rfl, 0, rfl⟩

set_option maxRecDepth 100000 in
set_option maxHeartbeats 1000000 in
theorem sameI_any (a b : Option Addr) (c1 c2 : Nat) (l m : List Int) (w : World) (h1 : Rd w a (iC l)) (h2 : Rd w b (iC m)) (hl : l.length ≤ 1000000000000000) :
    Calls Tryd.prog 45 #[.slice a l.length c1, .slice b m.length c2] w fun e w' => e = .returned (.bool (l == m)) ∧ ∃ n, w' = w.drewN n := by
  obtain ⟨r, hr⟩ : ∃ r, Hid ((l == m) = r) := ⟨_, rfl⟩
  rw [hr.out]
  by_cases hlen : l.length = m.length
  · have H1 : Hid (∀ i, i < l.length → ∃ b o, a = some ⟨b, o, none⟩ ∧ w.cell? ⟨b, o + i, none⟩ = some (.int .i64 (l.getD i 0))) := hd (fun i hi => h1 i _ (iC_at l i hi))
    have H2 : Hid (∀ i, i < l.length → ∃ x o, b = some ⟨x, o, none⟩ ∧ w.cell? ⟨x, o + i, none⟩ = some (.int .i64 (m.getD i 0))) := hd (fun i hi => h2 i _ (iC_at m i (by omega)))
    have HR : Hid ((∀ j, j < l.length → l.getD j 0 = m.getD j 0) → r = true) := hd (fun h => by rw [← hr.out]; exact eq_lists l m hlen h)
    have HN : Hid (∀ j, l.getD j 0 ≠ m.getD j 0 → r = false) := hd (fun j h => by rw [← hr.out]; exact ne_lists l m j h)
    rw [← hlen]
    clear h1 h2 hr hlen
    generalize l.length = len at *
    go_enter Tryd.func45, Tryd.ntmps45
    go_wp2_with fail
    go_loopg [5, 11, 12, 13, 14, 15, 16, 17, 18, 19, 20, 21, 22, 23, 24, 25] len (fun g v5 v11 v12 v13 v14 v15 v16 v17 v18 v19 v20 v21 v22 v23 v24 v25 wr => ∃ (i n : Nat), i + g = len ∧ v5 = .int .i64 (i : Int) ∧ wr = w.drewN n ∧ Hid (∀ j, j < i → l.getD j 0 = m.getD j 0))
    case atStart => exact ⟨0, 0, by omega, by go_num, rfl, hd (fun j hj => by omega)⟩
    case round =>
      obtain ⟨i, n, hi, rfl, rfl, HA⟩ := hrel
      by_cases h0 : gk = 0
      · subst h0
        have hge : decide ((i : Int) < (len : Int)) = false := by simp; omega
        have hge' : (len : Int) ≤ (i : Int) := by omega
        obtain rfl : r = true := HR.out (fun j hj => HA.out j (by omega))
        go_wp2_with fail
        go_ret
        exact ⟨rfl, n, rfl⟩
      · have hlt : (i : Int) < (len : Int) := by omega
        obtain ⟨b1, o1, ea, x1⟩ := H1.out i (by omega)
        obtain ⟨b2, o2, eb, x2⟩ := H2.out i (by omega)
        have HS : Hid (l.getD i 0 = m.getD i 0 → ∀ j, j < i + 1 → l.getD j 0 = m.getD j 0) := hd (fun he j hj => by
          by_cases e : j = i
          · rw [e]; exact he
          · exact HA.out j (by omega))
        have HF := hd (HN.out i)
        clear HA H1 H2 HN HR
        subst ea eb
        generalize l.getD i 0 = x at *
        generalize m.getD i 0 = y at *
        by_cases he : x = y
        · subst he
          go_upto_region 6 with fail
          go_quiet (fail)
          go_wp2_with fail
          go_roundg (gk - 1)
          case rel => exact ⟨i + 1, n + nq, by omega, by go_num, by first | rfl | rw [World.drewN_drewN], hd (HS.out (by trivial))⟩
          case measure => omega
        · obtain rfl : r = false := HF.out he
          have he' : (x == y) = false := by simp; omega
          clear HS HF he
          go_upto_region 6 with fail
          go_quiet (fail)
          go_wp2_with fail
          go_ret
          exact ⟨rfl, n + nq, by first | rfl | rw [World.drewN_drewN]⟩
  · obtain rfl : r = false := by rw [← hr.out]; exact ne_len l m hlen
    have hlen' : ((l.length : Int) == (m.length : Int)) = false := by simp; omega
    clear h1 h2 hr hlen
    generalize l.length = len at *
    generalize m.length = len2 at *
    go_enter Tryd.func45, Tryd.ntmps45
    go_wp2_with fail
    go_ret
    exact ⟨rfl, 0, rfl⟩
end Go.Proofs.YtmjokinagbpihaaDoor
