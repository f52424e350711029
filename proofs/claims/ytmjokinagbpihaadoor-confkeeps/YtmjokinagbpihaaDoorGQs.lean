/- Lists held against each other. -/
import Derived.Test.YtmjokinagbpihaaDoorQE2
import Derived.ChangeKeysEq
namespace Go.Proofs.YtmjokinagbpihaaDoor
open Go.RowKit

theorem eq_lists {α : Type} [BEq α] [LawfulBEq α] [Inhabited α] (l m : List α) (h : l.length = m.length) (he : ∀ j, j < l.length → l.getD j default = m.getD j default) : (l == m) = true := by
  rw [beq_iff_eq]
  apply List.ext_getElem? 
  intro j
  by_cases hj : j < l.length
  · have := he j hj
    rw [List.getD_eq_getElem?_getD, List.getD_eq_getElem?_getD, List.getElem?_eq_getElem hj, List.getElem?_eq_getElem (by omega)] at this
    rw [List.getElem?_eq_getElem hj, List.getElem?_eq_getElem (by omega)]
    simpa using this
  · rw [List.getElem?_eq_none (by omega), List.getElem?_eq_none (by omega)]
theorem ne_lists {α : Type} [BEq α] [LawfulBEq α] [Inhabited α] (l m : List α) (j : Nat) (he : l.getD j default ≠ m.getD j default) : (l == m) = false := by
  rw [beq_eq_false_iff_ne]
  intro e
  rw [e] at he
  exact he rfl
theorem ne_len {α : Type} [BEq α] [LawfulBEq α] (l m : List α) (h : l.length ≠ m.length) : (l == m) = false := by
  rw [beq_eq_false_iff_ne]
  intro e
  rw [e] at h
  exact h rfl


set_option maxRecDepth 100000 in
set_option maxHeartbeats 1000000 in
theorem eqU_any (a b : Option Addr) (c1 c2 : Nat) (l m : List Nat) (w : World) (h1 : Rd w a (labC l)) (h2 : Rd w b (labC m)) (hl : l.length ≤ 9223372036854775807) :
    Calls Tryd.prog 40 #[.slice a l.length c1, .slice b m.length c2] w fun e w' => e = .returned (.bool (l == m)) ∧ ∃ n, w' = w.drewN n := by
  obtain ⟨r, hr⟩ : ∃ r, Hid ((l == m) = r) := ⟨_, rfl⟩
  rw [hr.out]
  by_cases hlen : l.length = m.length
  · have H1 : Hid (∀ i, i < l.length → ∃ b o, a = some ⟨b, o, none⟩ ∧ w.cell? ⟨b, o + i, none⟩ = some (.int .u64 (((l.getD i 0) : Nat) : Int))) := hd (fun i hi => h1 i _ (labC_at l i hi))
    have H2 : Hid (∀ i, i < l.length → ∃ x o, b = some ⟨x, o, none⟩ ∧ w.cell? ⟨x, o + i, none⟩ = some (.int .u64 (((m.getD i 0) : Nat) : Int))) := hd (fun i hi => h2 i _ (labC_at m i (by omega)))
    have HR : Hid ((∀ j, j < l.length → l.getD j 0 = m.getD j 0) → r = true) := hd (fun h => by rw [← hr.out]; exact eq_lists l m hlen h)
    have HN : Hid (∀ j, l.getD j 0 ≠ m.getD j 0 → r = false) := hd (fun j h => by rw [← hr.out]; exact ne_lists l m j h)
    rw [← hlen]
    clear h1 h2 hr hlen
    generalize l.length = len at *
    go_enter Tryd.func40, Tryd.ntmps40
    go_wp2_with fail
    go_loopg [5, 13, 14, 15, 16, 17, 18, 19, 20, 21, 22, 23, 24, 25] len (fun g v5 v13 v14 v15 v16 v17 v18 v19 v20 v21 v22 v23 v24 v25 wr => ∃ (i n : Nat), i + g = len ∧ v13 = .int .i64 (i : Int) ∧ wr = w.drewN n ∧ Hid (∀ j, j < i → l.getD j 0 = m.getD j 0))
    case atStart => exact ⟨0, 0, by omega, by go_num, rfl, hd (fun j hj => by omega)⟩
    case round =>
      obtain ⟨i, n, hi, rfl, rfl, HA⟩ := hrel
      by_cases h0 : gk = 0
      · subst h0
        have hge : decide ((i : Int) < (len : Int)) = false := by simp; omega
        have hge' : (len : Int) ≤ (i : Int) := by omega
        obtain rfl : r = true := HR.out (fun j hj => HA.out j (by omega))
        go_wp2_with fail
        go_ret
        exact ⟨rfl, n, rfl⟩
      · have hlt : (i : Int) < (len : Int) := by omega
        obtain ⟨b1, o1, ea, x1⟩ := H1.out i (by omega)
        obtain ⟨b2, o2, eb, x2⟩ := H2.out i (by omega)
        have HS : Hid (l.getD i 0 = m.getD i 0 → ∀ j, j < i + 1 → l.getD j 0 = m.getD j 0) := hd (fun he j hj => by
          by_cases e : j = i
          · rw [e]; exact he
          · exact HA.out j (by omega))
        have HF := hd (HN.out i)
        clear HA H1 H2 HN HR
        subst ea eb
        generalize l.getD i 0 = x at *
        generalize m.getD i 0 = y at *
        by_cases he : x = y
        · subst he
          go_upto_region 6 with fail
          go_quiet (fail)
          go_wp2_with fail
          go_roundg (gk - 1)
          case rel => exact ⟨i + 1, n + nq, by omega, by go_num, by first | rfl | rw [World.drewN_drewN], hd (HS.out (by trivial))⟩
          case measure => omega
        · obtain rfl : r = false := HF.out he
          have he' : (((x : Nat) : Int) == ((y : Nat) : Int)) = false := by simp; omega
          clear HS HF he
          go_upto_region 6 with fail
          go_quiet (fail)
          go_wp2_with fail
          go_ret
          exact ⟨rfl, n + nq, by first | rfl | rw [World.drewN_drewN]⟩
  · obtain rfl : r = false := by rw [← hr.out]; exact ne_len l m hlen
    have hlen' : ((l.length : Int) == (m.length : Int)) = false := by simp; omega
    clear h1 h2 hr hlen
    generalize l.length = len at *
    generalize m.length = len2 at *
    go_enter Tryd.func40, Tryd.ntmps40
    go_wp2_with fail
    go_ret
    exact ⟨rfl, 0, rfl⟩

set_option maxRecDepth 100000 in
set_option maxHeartbeats 1000000 in
theorem eqI_any (a b : Option Addr) (c1 c2 : Nat) (l m : List Int) (w : World) (h1 : Rd w a (iC l)) (h2 : Rd w b (iC m)) (hl : l.length ≤ 9223372036854775807) :
    Calls Tryd.prog 41 #[.slice a l.length c1, .slice b m.length c2] w fun e w' => e = .returned (.bool (l == m)) ∧ ∃ n, w' = w.drewN n := by
  obtain ⟨r, hr⟩ : ∃ r, Hid ((l == m) = r) := ⟨_, rfl⟩
  rw [hr.out]
  by_cases hlen : l.length = m.length
  · have H1 : Hid (∀ i, i < l.length → ∃ b o, a = some ⟨b, o, none⟩ ∧ w.cell? ⟨b, o + i, none⟩ = some (.int .i64 (l.getD i 0))) := hd (fun i hi => h1 i _ (iC_at l i hi))
    have H2 : Hid (∀ i, i < l.length → ∃ x o, b = some ⟨x, o, none⟩ ∧ w.cell? ⟨x, o + i, none⟩ = some (.int .i64 (m.getD i 0))) := hd (fun i hi => h2 i _ (iC_at m i (by omega)))
    have HR : Hid ((∀ j, j < l.length → l.getD j 0 = m.getD j 0) → r = true) := hd (fun h => by rw [← hr.out]; exact eq_lists l m hlen h)
    have HN : Hid (∀ j, l.getD j 0 ≠ m.getD j 0 → r = false) := hd (fun j h => by rw [← hr.out]; exact ne_lists l m j h)
    rw [← hlen]
    clear h1 h2 hr hlen
    generalize l.length = len at *
    go_enter Tryd.func41, Tryd.ntmps41
    go_wp2_with fail
    go_loopg [5, 13, 14, 15, 16, 17, 18, 19, 20, 21, 22, 23, 24, 25] len (fun g v5 v13 v14 v15 v16 v17 v18 v19 v20 v21 v22 v23 v24 v25 wr => ∃ (i n : Nat), i + g = len ∧ v13 = .int .i64 (i : Int) ∧ wr = w.drewN n ∧ Hid (∀ j, j < i → l.getD j 0 = m.getD j 0))
    case atStart => exact ⟨0, 0, by omega, by go_num, rfl, hd (fun j hj => by omega)⟩
    case round =>
      obtain ⟨i, n, hi, rfl, rfl, HA⟩ := hrel
      by_cases h0 : gk = 0
      · subst h0
        have hge : decide ((i : Int) < (len : Int)) = false := by simp; omega
        have hge' : (len : Int) ≤ (i : Int) := by omega
        obtain rfl : r = true := HR.out (fun j hj => HA.out j (by omega))
        go_wp2_with fail
        go_ret
        exact ⟨rfl, n, rfl⟩
      · have hlt : (i : Int) < (len : Int) := by omega
        obtain ⟨b1, o1, ea, x1⟩ := H1.out i (by omega)
        obtain ⟨b2, o2, eb, x2⟩ := H2.out i (by omega)
        have HS : Hid (l.getD i 0 = m.getD i 0 → ∀ j, j < i + 1 → l.getD j 0 = m.getD j 0) := hd (fun he j hj => by
          by_cases e : j = i
          · rw [e]; exact he
          · exact HA.out j (by omega))
        have HF := hd (HN.out i)
        clear HA H1 H2 HN HR
        subst ea eb
        generalize l.getD i 0 = x at *
        generalize m.getD i 0 = y at *
        by_cases he : x = y
        · subst he
          go_upto_region 6 with fail
          go_quiet (fail)
          go_wp2_with fail
          go_roundg (gk - 1)
          case rel => exact ⟨i + 1, n + nq, by omega, by go_num, by first | rfl | rw [World.drewN_drewN], hd (HS.out (by trivial))⟩
          case measure => omega
        · obtain rfl : r = false := HF.out he
          have he' : (x == y) = false := by simp; omega
          clear HS HF he
          go_upto_region 6 with fail
          go_quiet (fail)
          go_wp2_with fail
          go_ret
          exact ⟨rfl, n + nq, by first | rfl | rw [World.drewN_drewN]⟩
  · obtain rfl : r = false := by rw [← hr.out]; exact ne_len l m hlen
    have hlen' : ((l.length : Int) == (m.length : Int)) = false := by simp; omega
    clear h1 h2 hr hlen
    generalize l.length = len at *
    generalize m.length = len2 at *
    go_enter Tryd.func41, Tryd.ntmps41
    go_wp2_with fail
    go_ret
    exact ⟨rfl, 0, rfl⟩

set_option maxRecDepth 100000 in
set_option maxHeartbeats 1000000 in
theorem sameL_any (a b : Option Addr) (c1 c2 : Nat) (l m : List Nat) (w : World) (h1 : Rd w a (labC l)) (h2 : Rd w b (labC m)) (hl : l.length ≤ 9223372036854775807) :
    Calls Tryd.prog 44 #[.slice a l.length c1, .slice b m.length c2] w fun e w' => e = .returned (.bool (l == m)) ∧ ∃ n, w' = w.drewN n := by
  obtain ⟨r, hr⟩ : ∃ r, Hid ((l == m) = r) := ⟨_, rfl⟩
  rw [hr.out]
  by_cases hlen : l.length = m.length
  · have H1 : Hid (∀ i, i < l.length → ∃ b o, a = some ⟨b, o, none⟩ ∧ w.cell? ⟨b, o + i, none⟩ = some (.int .u64 (((l.getD i 0) : Nat) : Int))) := hd (fun i hi => h1 i _ (labC_at l i hi))
    have H2 : Hid (∀ i, i < l.length → ∃ x o, b = some ⟨x, o, none⟩ ∧ w.cell? ⟨x, o + i, none⟩ = some (.int .u64 (((m.getD i 0) : Nat) : Int))) := hd (fun i hi => h2 i _ (labC_at m i (by omega)))
    have HR : Hid ((∀ j, j < l.length → l.getD j 0 = m.getD j 0) → r = true) := hd (fun h => by rw [← hr.out]; exact eq_lists l m hlen h)
    have HN : Hid (∀ j, l.getD j 0 ≠ m.getD j 0 → r = false) := hd (fun j h => by rw [← hr.out]; exact ne_lists l m j h)
    rw [← hlen]
    clear h1 h2 hr hlen
    generalize l.length = len at *
    go_enter Tryd.func44, Tryd.ntmps44
    go_wp2_with fail
    go_loopg [5, 11, 12, 13, 14, 15, 16, 17, 18, 19, 20, 21, 22, 23, 24, 25] len (fun g v5 v11 v12 v13 v14 v15 v16 v17 v18 v19 v20 v21 v22 v23 v24 v25 wr => ∃ (i n : Nat), i + g = len ∧ v5 = .int .i64 (i : Int) ∧ wr = w.drewN n ∧ Hid (∀ j, j < i → l.getD j 0 = m.getD j 0))
    case atStart => exact ⟨0, 0, by omega, by go_num, rfl, hd (fun j hj => by omega)⟩
    case round =>
      obtain ⟨i, n, hi, rfl, rfl, HA⟩ := hrel
      by_cases h0 : gk = 0
      · subst h0
        have hge : decide ((i : Int) < (len : Int)) = false := by simp; omega
        have hge' : (len : Int) ≤ (i : Int) := by omega
        obtain rfl : r = true := HR.out (fun j hj => HA.out j (by omega))
        go_wp2_with fail
        go_ret
        exact ⟨rfl, n, rfl⟩
      · have hlt : (i : Int) < (len : Int) := by omega
        obtain ⟨b1, o1, ea, x1⟩ := H1.out i (by omega)
        obtain ⟨b2, o2, eb, x2⟩ := H2.out i (by omega)
        have HS : Hid (l.getD i 0 = m.getD i 0 → ∀ j, j < i + 1 → l.getD j 0 = m.getD j 0) := hd (fun he j hj => by
          by_cases e : j = i
          · rw [e]; exact he
          · exact HA.out j (by omega))
        have HF := hd (HN.out i)
        clear HA H1 H2 HN HR
        subst ea eb
        generalize l.getD i 0 = x at *
        generalize m.getD i 0 = y at *
        by_cases he : x = y
        · subst he
          go_upto_region 6 with fail
          go_quiet (fail)
          go_wp2_with fail
          go_roundg (gk - 1)
          case rel => exact ⟨i + 1, n + nq, by omega, by go_num, by first | rfl | rw [World.drewN_drewN], hd (HS.out (by trivial))⟩
          case measure => omega
        · obtain rfl : r = false := HF.out he
          have he' : (((x : Nat) : Int) == ((y : Nat) : Int)) = false := by simp; omega
          clear HS HF he
          go_upto_region 6 with fail
          go_quiet (fail)
          go_wp2_with fail
          go_ret
          exact ⟨rfl, n + nq, by first | rfl | rw [World.drewN_drewN]⟩
  · obtain rfl : r = false := by rw [← hr.out]; exact ne_len l m hlen
    have hlen' : ((l.length : Int) == (m.length : Int)) = false := by simp; omega
    clear h1 h2 hr hlen
    generalize l.length = len at *
    generalize m.length = len2 at *
    go_enter Tryd.func44, Tryd.ntmps44
    go_wp2_with fail
    go_ret
    exact ⟨rfl, 0, rfl⟩

set_option maxRecDepth 100000 in
set_option maxHeartbeats 1000000 in
theorem sameI_any (a b : Option Addr) (c1 c2 : Nat) (l m : List Int) (w : World) (h1 : Rd w a (iC l)) (h2 : Rd w b (iC m)) (hl : l.length ≤ 9223372036854775807) :
    Calls Tryd.prog 45 #[.slice a l.length c1, .slice b m.length c2] w fun e w' => e = .returned (.bool (l == m)) ∧ ∃ n, w' = w.drewN n := by
  obtain ⟨r, hr⟩ : ∃ r, Hid ((l == m) = r) := ⟨_, rfl⟩
  rw [hr.out]
  by_cases hlen : l.length = m.length
  · have H1 : Hid (∀ i, i < l.length → ∃ b o, a = some ⟨b, o, none⟩ ∧ w.cell? ⟨b, o + i, none⟩ = some (.int .i64 (l.getD i 0))) := hd (fun i hi => h1 i _ (iC_at l i hi))
    have H2 : Hid (∀ i, i < l.length → ∃ x o, b = some ⟨x, o, none⟩ ∧ w.cell? ⟨x, o + i, none⟩ = some (.int .i64 (m.getD i 0))) := hd (fun i hi => h2 i _ (iC_at m i (by omega)))
    have HR : Hid ((∀ j, j < l.length → l.getD j 0 = m.getD j 0) → r = true) := hd (fun h => by rw [← hr.out]; exact eq_lists l m hlen h)
    have HN : Hid (∀ j, l.getD j 0 ≠ m.getD j 0 → r = false) := hd (fun j h => by rw [← hr.out]; exact ne_lists l m j h)
    rw [← hlen]
    clear h1 h2 hr hlen
    generalize l.length = len at *
    go_enter Tryd.func45, Tryd.ntmps45
    go_wp2_with fail
    go_loopg [5, 11, 12, 13, 14, 15, 16, 17, 18, 19, 20, 21, 22, 23, 24, 25] len (fun g v5 v11 v12 v13 v14 v15 v16 v17 v18 v19 v20 v21 v22 v23 v24 v25 wr => ∃ (i n : Nat), i + g = len ∧ v5 = .int .i64 (i : Int) ∧ wr = w.drewN n ∧ Hid (∀ j, j < i → l.getD j 0 = m.getD j 0))
    case atStart => exact ⟨0, 0, by omega, by go_num, rfl, hd (fun j hj => by omega)⟩
    case round =>
      obtain ⟨i, n, hi, rfl, rfl, HA⟩ := hrel
      by_cases h0 : gk = 0
      · subst h0
        have hge : decide ((i : Int) < (len : Int)) = false := by simp; omega
        have hge' : (len : Int) ≤ (i : Int) := by omega
        obtain rfl : r = true := HR.out (fun j hj => HA.out j (by omega))
        go_wp2_with fail
        go_ret
        exact ⟨rfl, n, rfl⟩
      · have hlt : (i : Int) < (len : Int) := by omega
        obtain ⟨b1, o1, ea, x1⟩ := H1.out i (by omega)
        obtain ⟨b2, o2, eb, x2⟩ := H2.out i (by omega)
        have HS : Hid (l.getD i 0 = m.getD i 0 → ∀ j, j < i + 1 → l.getD j 0 = m.getD j 0) := hd (fun he j hj => by
          by_cases e : j = i
          · rw [e]; exact he
          · exact HA.out j (by omega))
        have HF := hd (HN.out i)
        clear HA H1 H2 HN HR
        subst ea eb
        generalize l.getD i 0 = x at *
        generalize m.getD i 0 = y at *
        by_cases he : x = y
        · subst he
          go_upto_region 6 with fail
          go_quiet (fail)
          go_wp2_with fail
          go_roundg (gk - 1)
          case rel => exact ⟨i + 1, n + nq, by omega, by go_num, by first | rfl | rw [World.drewN_drewN], hd (HS.out (by trivial))⟩
          case measure => omega
        · obtain rfl : r = false := HF.out he
          have he' : (x == y) = false := by simp; omega
          clear HS HF he
          go_upto_region 6 with fail
          go_quiet (fail)
          go_wp2_with fail
          go_ret
          exact ⟨rfl, n + nq, by first | rfl | rw [World.drewN_drewN]⟩
  · obtain rfl : r = false := by rw [← hr.out]; exact ne_len l m hlen
    have hlen' : ((l.length : Int) == (m.length : Int)) = false := by simp; omega
    clear h1 h2 hr hlen
    generalize l.length = len at *
    generalize m.length = len2 at *
    go_enter Tryd.func45, Tryd.ntmps45
    go_wp2_with fail
    go_ret
    exact ⟨rfl, 0, rfl⟩
end Go.Proofs.YtmjokinagbpihaaDoor

/- Processes held against each other, but for their programs. -/
namespace Go.Proofs.YtmjokinagbpihaaDoor
open Go.RowKit

/-- Worlds behind one, in which what was there is as it was. -/
structure BelW (w : World) where
  val : World
  bel : Below w.heap.size w val

/-- A region that draws its order and whose calls leave worlds of a family: one walk, in the order of the text. -/
theorem wp_region_family {P : Program} {id : Nat} {Q : Exit → Act → World → Prop} {a : Act} {w : World} {l : List Oper} {α : Type} (f : α → World) (hm : P.follows .mixedOrders = true) (hB : Region.lexB .any l.toArray = true)
    (p0 : α) (h0 : f p0 = w.drew) (h : wpQuiet P l.toArray (fun w' => ∃ p, w' = f p) (fun a' => ∀ w', (∃ p, w' = f p) → Q .normal a' w') l a) : (Code.region id l.toArray true).wp P Q a w :=
  wp_region_quiet (C := fun w' => ∃ p, w' = f p) hm hB ⟨p0, h0.symm⟩ (by simpa using h)

def parts (l : List Pr) : List Int := l.map Pr.part
theorem parts_len (l : List Pr) : (parts l).length = l.length := by simp [parts]
theorem parts_at (l : List Pr) (i : Nat) (_h : i < l.length) : (parts l).getD i 0 = (l.getD i default).part := by
  simp only [parts, List.getD_eq_getElem?_getD, List.getElem?_map]
  cases l[i]? <;> rfl

set_option maxRecDepth 100000 in
theorem skel1_any (p q : Int) (v u : Value) (w : World) :
    Calls Tryd.prog 43 #[.agg #[.int .i64 p, v], .agg #[.int .i64 q, u]] w fun e w' => e = .returned (.bool (p == q)) ∧ Below w.heap.size w w' := by
  have HB : Hid (∀ o1 o2, Below w.heap.size w ((w.alloc o1).alloc o2)) := hd (fun o1 o2 => ((Below.refl _ w).alloc (Nat.le_refl _) _).alloc (by simp) _)
  go_enter Tryd.func43, Tryd.ntmps43
  go_wp2_with fail
  go_ret
  exact ⟨rfl, HB.out _ _⟩

set_option maxRecDepth 100000 in
set_option maxHeartbeats 1000000 in
theorem eqF_any (a b : Option Addr) (c1 c2 : Nat) (l m : List PrM) (w : World) (h1 : Rd w a (psC l)) (h2 : Rd w b (psC m)) (hl : l.length ≤ 9223372036854775807) :
    Calls Tryd.prog 42 #[.slice a l.length c1, .slice b m.length c2, .func (.func 43) #[] #[]] w fun e w' => e = .returned (.bool (parts (psOf l) == parts (psOf m))) ∧ Below w.heap.size w w' := by
  obtain ⟨r, hr⟩ : ∃ r, Hid ((parts (psOf l) == parts (psOf m)) = r) := ⟨_, rfl⟩
  rw [hr.out]
  have HB0 := hd (below_same w)
  by_cases hlen : l.length = m.length
  · have H1 : Hid (∀ i, i < l.length → ∃ b o, a = some ⟨b, o, none⟩ ∧ ∀ W, Below w.heap.size w W → W.cell? ⟨b, o + i * 2, none⟩ = some (.int .i64 (l.getD i default).p.part) ∧ W.cell? ⟨b, o + i * 2 + 1, none⟩ = some (.slice (l.getD i default).a (l.getD i default).p.code.length (l.getD i default).c)) := hd (fun i hi => by
      obtain ⟨b, o, e, x0⟩ := h1 _ _ (psC_at l i hi).1
      obtain ⟨b', o', e', x1⟩ := h1 _ _ (psC_at l i hi).2
      rw [e] at e'
      cases e'
      refine ⟨b, o, e, fun W hW => ⟨(hW.cell (p := ⟨b, o + i * 2, none⟩) (World.block_lt_of_cell? w _ x0)).trans x0, ?_⟩⟩
      rw [show o + i * 2 + 1 = o + (i * 2 + 1) by omega]
      exact (hW.cell (p := ⟨b, o + (i * 2 + 1), none⟩) (World.block_lt_of_cell? w _ x1)).trans x1)
    have H2 : Hid (∀ i, i < l.length → ∃ x o, b = some ⟨x, o, none⟩ ∧ ∀ W, Below w.heap.size w W → W.cell? ⟨x, o + i * 2, none⟩ = some (.int .i64 (m.getD i default).p.part) ∧ W.cell? ⟨x, o + i * 2 + 1, none⟩ = some (.slice (m.getD i default).a (m.getD i default).p.code.length (m.getD i default).c)) := hd (fun i hi => by
      obtain ⟨x, o, e, x0⟩ := h2 _ _ (psC_at m i (by omega)).1
      obtain ⟨b', o', e', x1⟩ := h2 _ _ (psC_at m i (by omega)).2
      rw [e] at e'
      cases e'
      refine ⟨x, o, e, fun W hW => ⟨(hW.cell (p := ⟨x, o + i * 2, none⟩) (World.block_lt_of_cell? w _ x0)).trans x0, ?_⟩⟩
      rw [show o + i * 2 + 1 = o + (i * 2 + 1) by omega]
      exact (hW.cell (p := ⟨x, o + (i * 2 + 1), none⟩) (World.block_lt_of_cell? w _ x1)).trans x1)
    have HP : Hid (∀ i, i < l.length → (parts (psOf l)).getD i 0 = (l.getD i default).p.part ∧ (parts (psOf m)).getD i 0 = (m.getD i default).p.part) := hd (fun i hi => by
      rw [parts_at _ _ (by rw [psOf_len]; exact hi), parts_at _ _ (by rw [psOf_len]; omega)]
      simp only [psOf, List.getD_eq_getElem?_getD, List.getElem?_map]
      rw [List.getElem?_eq_getElem hi, List.getElem?_eq_getElem (show i < m.length by omega)]
      exact ⟨rfl, rfl⟩)
    have HR : Hid ((∀ j, j < l.length → (l.getD j default).p.part = (m.getD j default).p.part) → r = true) := hd (fun h => by
      rw [← hr.out]
      refine eq_lists _ _ (by rw [parts_len, parts_len, psOf_len, psOf_len]; exact hlen) (fun j hj => ?_)
      rw [parts_len, psOf_len] at hj
      show (parts (psOf l)).getD j 0 = (parts (psOf m)).getD j 0
      rw [(HP.out j hj).1, (HP.out j hj).2]
      exact h j hj)
    have HN : Hid (∀ j, j < l.length → (l.getD j default).p.part ≠ (m.getD j default).p.part → r = false) := hd (fun j hj h => by
      rw [← hr.out]
      refine ne_lists _ _ j ?_
      show (parts (psOf l)).getD j 0 ≠ (parts (psOf m)).getD j 0
      rw [(HP.out j hj).1, (HP.out j hj).2]
      exact h)
    rw [← hlen]
    clear h1 h2 hr hlen HP
    generalize l.length = len at *
    go_enter Tryd.func42, Tryd.ntmps42
    go_wp2_with fail
    go_loopg [7, 8, 9, 17, 18, 19, 20, 21, 22, 23, 24, 25, 26, 27, 28, 29, 30, 31] len (fun g v7 v8 v9 v17 v18 v19 v20 v21 v22 v23 v24 v25 v26 v27 v28 v29 v30 v31 wr => ∃ (i : Nat), i + g = len ∧ v17 = .int .i64 (i : Int) ∧ Hid (Below w.heap.size w wr) ∧ Hid (∀ j, j < i → (l.getD j default).p.part = (m.getD j default).p.part))
    case atStart => exact ⟨0, by omega, by go_num, HB0, hd (fun j hj => by omega)⟩
    case round =>
      clear HB0
      obtain ⟨i, hi, rfl, HB, HA⟩ := hrel
      by_cases h0 : gk = 0
      · subst h0
        have hge : decide ((i : Int) < (len : Int)) = false := by simp; omega
        have hge' : (len : Int) ≤ (i : Int) := by omega
        obtain rfl : r = true := HR.out (fun j hj => HA.out j (by omega))
        go_wp2_with fail
        go_ret
        exact ⟨rfl, HB.out⟩
      · have hlt : (i : Int) < (len : Int) := by omega
        obtain ⟨b1, o1, ea, X1⟩ := H1.out i (by omega)
        obtain ⟨b2, o2, eb, X2⟩ := H2.out i (by omega)
        have HS : Hid ((l.getD i default).p.part = (m.getD i default).p.part → ∀ j, j < i + 1 → (l.getD j default).p.part = (m.getD j default).p.part) := hd (fun he j hj => by
          by_cases e : j = i
          · rw [e]; exact he
          · exact HA.out j (by omega))
        have HF := hd (HN.out i (by omega))
        clear HA H1 H2 HN HR
        subst ea eb
        replace X1 := hd X1
        replace X2 := hd X2
        have HT : Hid (∀ o1, Below w.heap.size w (wr.alloc o1)) := hd (fun o1 => HB.out.trans ((below_al wr o1).mono HB.out.size))
        generalize (l.getD i default).p.part = p at *
        generalize (m.getD i default).p.part = q at *
        generalize (l.getD i default).a = ma at *
        generalize (l.getD i default).c = mc at *
        generalize (l.getD i default).p.code.length = mn at *
        generalize (m.getD i default).a = na at *
        generalize (m.getD i default).c = nc at *
        generalize (m.getD i default).p.code.length = nn at *
        obtain ⟨x0, x1⟩ := X1.out wr HB.out
        go_upto_region 6 with fail
        obtain ⟨wa, hwa⟩ : ∃ W, Hid (wr.alloc (.cells #[.int .i64 p, .slice ma mn mc] 42) = W) := ⟨_, rfl⟩
        rw [hwa.out]
        have ba : Hid (Below w.heap.size w wa) := hd (by rw [← hwa.out]; exact HT.out _)
        have HBx : Hid (wa.heap[wr.heap.size]? = some (.cells #[.int .i64 p, .slice ma mn mc] 42 (0, 0))) := hd (by rw [← hwa.out]; exact heap_alloc_new wr _)
        obtain ⟨B1, hB1⟩ : ∃ B, Hid (wr.heap.size = B) := ⟨_, rfl⟩
        rw [hB1.out] at HBx ⊢
        obtain ⟨y0, y1⟩ := X2.out wa ba.out
        clear hwa hB1 x0 x1 HT
        have bb := hd (below_al wa (.cells #[.int .i64 q, .slice na nn nc] 42))
        go_upto_region 7 with fail
        obtain ⟨wb, hwb⟩ : ∃ W, Hid (wa.alloc (.cells #[.int .i64 q, .slice na nn nc] 42) = W) := ⟨_, rfl⟩
        rw [hwb.out] at bb ⊢
        have z0 := cell_of_row wb B1 0 _ _ _ ((bb.out.block B1 (Array.getElem?_eq_some_iff.1 HBx.out).1).trans HBx.out)
        have z1 := cell_of_row wb B1 1 _ _ _ ((bb.out.block B1 (Array.getElem?_eq_some_iff.1 HBx.out).1).trans HBx.out)
        have hb2 : wb.heap[wa.heap.size]? = some (.cells #[.int .i64 q, .slice na nn nc] 42 (0, 0)) := by rw [← hwb.out]; exact heap_alloc_new wa _
        have z2 := cell_of_row wb wa.heap.size 0 _ _ _ hb2
        have z3 := cell_of_row wb wa.heap.size 1 _ _ _ hb2
        simp at z0 z1 z2 z3
        have hsk := skel1_any p q (.slice ma mn mc) (.slice na nn nc) wb
        replace bb := hd (ba.out.trans (bb.out.mono ba.out.size))
        clear hwb hb2 y0 y1 HBx
        by_cases he : p = q
        · subst he
          rw [show (p == p) = true by simp] at hsk
          go_wp2_with (go_at_call 43; refine hsk.mono ?_; rintro e wc ⟨rfl, bc⟩; replace bc := hd bc)
          go_roundg (gk - 1)
          case rel => exact ⟨i + 1, by omega, by go_num, hd (bb.out.trans (bc.out.mono bb.out.size)), hd (HS.out (by trivial))⟩
          case measure => omega
        · obtain rfl : r = false := HF.out he
          rw [show (p == q) = false by simpa using he] at hsk
          go_wp2_with (go_at_call 43; refine hsk.mono ?_; rintro e wc ⟨rfl, bc⟩; replace bc := hd bc)
          go_ret
          exact ⟨rfl, bb.out.trans (bc.out.mono bb.out.size)⟩
  · obtain rfl : r = false := by rw [← hr.out]; exact ne_len _ _ (by rw [parts_len, parts_len, psOf_len, psOf_len]; exact hlen)
    have hlen' : ((l.length : Int) == (m.length : Int)) = false := by simp; omega
    clear h1 h2 hr hlen
    generalize l.length = len at *
    generalize m.length = len2 at *
    go_enter Tryd.func42, Tryd.ntmps42
    go_wp2_with fail
    go_ret
    exact ⟨rfl, HB0.out⟩
end Go.Proofs.YtmjokinagbpihaaDoor

/- Skeleton. -/
namespace Go.Proofs.YtmjokinagbpihaaDoor
open Go.RowKit

theorem info3s : (Tryd.prog.info? 3).isSome = true := by kernel_rfl
theorem cells3 : Tryd.prog.cellsOf 3 = 1 := by kernel_rfl
theorem part_int (xs : Array Value) (i : Nat) (v : Int) (h : xs[i]? = some (.int .i64 v)) (W : World) : (part 3 xs i).run Tryd.prog W = .ok (.int .i64 v) W := by
  unfold part
  simp [go_sem, h]
theorem eqItems_int (d : Nat) (xs ys : Array Value) (f g : Nat → Int) (W : World) : ∀ is : List Nat, (∀ i ∈ is, xs[i]? = some (.int .i64 (f i)) ∧ ys[i]? = some (.int .i64 (g i))) → (Op.eqItems (d + 1) 3 1 xs ys is).run Tryd.prog W = .ok (is.all fun i => f i == g i) W
  | [], _ => by simp [Op.eqItems]
  | i :: is, h => by
    have hv := h i (by simp)
    have ih := eqItems_int d xs ys f g W is (fun j hj => h j (by simp [hj]))
    simp only [Op.eqItems, Sem.run_bind, Nat.mul_one, part_int xs i _ hv.1, part_int ys i _ hv.2, Result.andThen_ok, run_equalIn_int W d 3 .i64 .i64 _ _ Tryd.underlying3]
    by_cases he : f i = g i
    · simpa [he] using ih
    · have : (f i == g i) = false := by simpa using he
      simp [this]
theorem eq4 (a0 a1 a2 a3 b0 b1 b2 b3 : Int) (n : Nat) (W : World) :
    (Op.equalIn (n + 2) 53 (.agg #[.int .i64 a0, .int .i64 a1, .int .i64 a2, .int .i64 a3]) (.agg #[.int .i64 b0, .int .i64 b1, .int .i64 b2, .int .i64 b3])).run Tryd.prog W = .ok (a0 == b0 && a1 == b1 && a2 == b2 && a3 == b3) W := by
  obtain ⟨i, hi⟩ := Option.isSome_iff_exists.1 info3s
  rw [run_equalIn_array W (n + 1) _ _ Tryd.underlying53 hi, cells3, eqItems_int n _ _ (fun i => [a0, a1, a2, a3].getD i 0) (fun i => [b0, b1, b2, b3].getD i 0) W _ (fun j hj => ?_)]
  · simp [List.range_succ, Bool.and_assoc]
  · have hj' : j < 4 := List.mem_range.1 hj
    have h : j = 0 ∨ j = 1 ∨ j = 2 ∨ j = 3 := by omega
    rcases h with rfl | rfl | rfl | rfl <;> exact ⟨rfl, rfl⟩

def nmE (c d : Cfg) : Bool := c.fuel == d.fuel && c.lane == d.lane && c.locks == d.locks && c.log == d.log
/-- The same but for programs? -/
def skB (c d : Cfg) : Bool := (c.labels == d.labels) && ((c.table == d.table) && (nmE c d && (parts c.procs == parts d.procs)))
end Go.Proofs.YtmjokinagbpihaaDoor
