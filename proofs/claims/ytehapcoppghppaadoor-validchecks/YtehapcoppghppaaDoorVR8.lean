/- ValidChecks. -/
import Derived.Test.YtehapcoppghppaaDoorVR7
namespace Go.Proofs.YtehapcoppghppaaDoor
open Go.RowKit

/-- What stays through the calls: the program that came in, and its copy with room. -/
structure Kv (w : World) (a : Option Addr) (m : List Ins) (g n : Nat) (W : World) : Prop where
  below : Below w.heap.size w W
  prog : Prg W a m
  own : W.ownsRow w.heap.size 25 5 (.slice (some ⟨g, 0, none⟩) n n) n (pCells (m ++ [inI (-7) 7, inI (-8) 8]))

theorem Kv.step {w : World} {a : Option Addr} {m : List Ins} {g n : Nat} {W W' : World} (h : Kv w a m g n W) (hb : Below W.heap.size W W') : Kv w a m g n W' :=
  ⟨h.below.trans (hb.mono h.below.size), h.prog.kept hb, owns_below h.own hb⟩
theorem Kv.drewN {w : World} {a : Option Addr} {m : List Ins} {g n : Nat} {W : World} (h : Kv w a m g n W) (k : Nat) : Kv w a m g n (W.drewN k) := h.step (below_drewN (Below.refl _ _) k)
theorem Kv.drew {w : World} {a : Option Addr} {m : List Ins} {g n : Nat} {W : World} (h : Kv w a m g n W) : Kv w a m g n W.drew := h.step (Below.refl _ _).drew
theorem Kv.at_ {w : World} {a : Option Addr} {m : List Ins} {g n : Nat} {W : World} (h : Kv w a m g n W) (hn : n = m.length + 2) (i : Nat) (hi : i < n) : InsAt W g (i * 5) ((m ++ [inI (-7) 7, inI (-8) 8]).getD i default) := by
  have key : ∀ r, r < 5 → W.cell? ⟨g, i * 5 + r, none⟩ = (insCells ((m ++ [inI (-7) 7, inI (-8) 8]).getD i default))[r]? := fun r hr => by
    rw [h.own.cellAt (i * 5 + r) (by omega), pCells_at _ i r (by simp; omega) hr]
  exact ⟨key 0 (by omega), key 1 (by omega), key 2 (by omega), key 3 (by omega), key 4 (by omega)⟩
theorem Kv.copy {w : World} {a : Option Addr} {m : List Ins} {g n : Nat} {W : World} (h : Kv w a m g n W) (hn : n = m.length + 2) : Prg W (some ⟨g, 0, none⟩) m := fun i hi => by
  refine ⟨g, 0, rfl, ?_⟩
  have := h.at_ hn i (by omega)
  rw [List.getD_eq_getElem?_getD, List.getElem?_append_left hi, ← List.getD_eq_getElem?_getD] at this
  rwa [Nat.zero_add]

/-- A world in which they stay. -/
structure KW (w : World) (a : Option Addr) (m : List Ins) (g n : Nat) where
  val : World
  kp : Kv w a m g n val

/-- A region that draws its order and whose calls leave worlds of a family: one walk, in the order of the text. -/
theorem wp_region_family {P : Program} {id : Nat} {Q : Exit → Act → World → Prop} {a : Act} {w : World} {l : List Oper} {α : Type} (f : α → World) (hm : P.follows .mixedOrders = true) (hB : Region.lexB .any l.toArray = true)
    (p0 : α) (h0 : f p0 = w.drew) (h : wpQuiet P l.toArray (fun w' => ∃ p, w' = f p) (fun a' => ∀ w', (∃ p, w' = f p) → Q .normal a' w') l a) : (Code.region id l.toArray true).wp P Q a w :=
  wp_region_quiet (C := fun w' => ∃ p, w' = f p) hm hB ⟨p0, h0.symm⟩ (by simpa using h)

theorem set_last (m : List Ins) (x : Ins) : (m ++ [insZ, insZ]).set m.length x = m ++ [x, insZ] := by
  rw [List.set_append_right _ _ (Nat.le_refl _)]
  simp
theorem set_last2 (m : List Ins) (x y : Ins) : (m ++ [x, insZ]).set (m.length + 1) y = m ++ [x, y] := by
  rw [List.set_append_right _ _ (by omega)]
  simp

set_option maxRecDepth 100000 in
set_option maxHeartbeats 4000000 in
theorem validChecks_walk (a : Option Addr) (n cap : Nat) (m : List Ins) (k h : Int) (w : World) (hP : Prg w a m) (eM : min (n : Int) 1048576 = (m.length : Int)) (hcap : m.length ≤ cap) (hF : Fld w) :
    Calls Tryd.prog 4 #[.slice a n cap, .int .i64 k, .int .i64 h] w fun e w' => e = .returned (.bool true) ∧ Below w.heap.size w w' := by
  obtain ⟨i0, hi0, hz0, hz1, hz2⟩ := info_parts infoN
  have HP : Hid (Prg w a m) := hP
  have HF : Hid (Fld w) := hF
  have hml : m.length ≤ 1048576 := by omega
  have HL : Hid (m.length ≤ 1048576) := hd hml
  obtain ⟨N, hN⟩ : ∃ N, Hid (m.length = N) := ⟨_, rfl⟩
  rw [hN.out] at eM hcap hml
  have eM' : (if (1048576 : Int) < (n : Int) then (1048576 : Int) else (n : Int)) = (N : Int) := by
    split <;> omega
  have hNc : (N : Int) ≤ (cap : Int) := by omega
  have hn47 : N + 2 ≤ maxLen := by unfold maxLen; omega
  have hI := fun (o i : Int) (W : World) => ins_any o i W
  unfold insV inI at hI
  simp only at hI
  clear hP hF eM
  go_enter Tryd.func4, Tryd.ntmps4
  go_upto_region 3 with (refine wpList_make_full _ rfl _ _ 23 rfl w.heap.size 25 i0 (.agg #[.int .i64 0, .int .i64 0, .int .i64 0, .int .i64 0, .int .i64 0]) 5 Tryd.underlying23 hi0 hz0 hz1 .i64 .i64 _ _ (N + 2) rfl rfl (by omega) (by omega) (by rw [hz2]; omega) hn47 (Nat.le_refl _) ?_; intro w1 ho1 hg1)
  rw [made5] at ho1
  have b1 : Below w.heap.size w w1 := (Below.refl _ _).grown hg1 (Nat.le_refl _) (fun k hk => by cases hk)
  obtain ⟨w2, hcp, o2, b2⟩ := copy_prog (w := w) (w1 := w1) (a := a) (cap := cap) (m := m) (HP.out.kept b1) (by rw [hN.out]) hn47 ho1 b1
  rw [hN.out] at hcp
  obtain ⟨g, hg⟩ : ∃ g, Hid (w.heap.size = g) := ⟨_, rfl⟩
  have hgl : w.heap.size < w2.heap.size := (World.ownsRow.lt o2 _ rfl).2
  have HO2 : Hid (w2.ownsRow w.heap.size 25 5 (.slice (some ⟨g, 0, none⟩) (N + 2) (N + 2)) (N + 2) (pCells (m ++ [insZ, insZ]))) := hd (by rw [← hg.out]; exact o2)
  have HB2 : Hid (Below w.heap.size w w2) := hd b2
  have HG : Hid (w.heap.size ≤ g) := hd (by rw [hg.out]; exact Nat.le_refl _)
  rw [hg.out] at hcp ⊢
  clear ho1 hg1 b1 o2 b2 hgl hi0 hz0 hz1 hz2
  go_upto_region 4 with fail
  have hNN : N < N + 2 := by omega
  have hNN' : (N : Int) < (N : Int) + 2 := by omega
  go_upto_region 5 with (go_at_call 8; refine (hI _ _ _).mono ?_; rintro e3 w3 ⟨rfl, b3⟩; have HO3 := hd (owns_below HO2.out b3); have f0 := HO3.out.frozenAt (N * 5); have f1 := HO3.out.frozenAt (N * 5 + 1); have f2 := HO3.out.frozenAt (N * 5 + 2); have f3 := HO3.out.frozenAt (N * 5 + 3); have f4 := HO3.out.frozenAt (N * 5 + 4); have hxx := (prg_of_owns HO3.out).1 N (by simp [hN.out]); obtain ⟨gq, oq, eq, hx⟩ := hxx; cases eq; rw [Nat.zero_add] at hx; obtain ⟨c0, c1, c2, c3, c4⟩ := hx)
  have HO4 : Hid ((put5 w3 g (N * 5) (inI (-7) 7)).ownsRow w.heap.size 25 5 (.slice (some ⟨g, 0, none⟩) (N + 2) (N + 2)) (N + 2) (pCells (m ++ [inI (-7) 7, insZ]))) := hd (by
    have h1 := (stored5 HO3.out (N * 5) (inI (-7) 7)).1
    have e : (m ++ [insZ, insZ]).set N (inI (-7) 7) = m ++ [inI (-7) 7, insZ] := by rw [← hN.out]; exact set_last m _
    rwa [set5_cells _ _ _ (by simp [hN.out]), e] at h1)
  have HB4 : Hid (Below w.heap.size w (put5 w3 g (N * 5) (inI (-7) 7))) := hd (by
    have h1 := HB2.out.trans (b3.mono HB2.out.size)
    exact h1.grown (stored5 HO3.out (N * 5) (inI (-7) 7)).2 h1.size (fun k hk => by cases hk; exact HG.out))
  obtain ⟨w4, hw4⟩ : ∃ w4, Hid (put5 w3 g (N * 5) (inI (-7) 7) = w4) := ⟨_, rfl⟩
  rw [hw4.out] at HO4 HB4
  rw [show ((((w3.setCell ⟨g, N * 5, none⟩ (.int .i64 (-7))).setCell ⟨g, N * 5 + 1, none⟩ (.int .i64 0)).setCell ⟨g, N * 5 + 2, none⟩ (.int .i64 0)).setCell ⟨g, N * 5 + 3, none⟩ (.int .i64 0)).setCell ⟨g, N * 5 + 4, none⟩ (.int .i64 7) = w4 from hw4.out]
  clear f0 f1 f2 f3 f4 c0 c1 c2 c3 c4 b3
  have hN1 : N + 1 < N + 2 := by omega
  have hN1' : (N : Int) + 1 < (N : Int) + 2 := by omega
  go_upto_region 6 with (go_at_call 8; refine (hI _ _ _).mono ?_; rintro e5 w5 ⟨rfl, b5⟩; have HO5 := hd (owns_below HO4.out b5); have f0 := HO5.out.frozenAt ((N + 1) * 5); have f1 := HO5.out.frozenAt ((N + 1) * 5 + 1); have f2 := HO5.out.frozenAt ((N + 1) * 5 + 2); have f3 := HO5.out.frozenAt ((N + 1) * 5 + 3); have f4 := HO5.out.frozenAt ((N + 1) * 5 + 4); have hxx := (prg_of_owns HO5.out).1 (N + 1) (by simp [hN.out]); obtain ⟨gq, oq, eq, hx⟩ := hxx; cases eq; rw [Nat.zero_add] at hx; obtain ⟨c0, c1, c2, c3, c4⟩ := hx)
  have HK6 : Hid (Kv w a m g (N + 2) (put5 w5 g ((N + 1) * 5) (inI (-8) 8))) := hd (by
    have h1 := (stored5 HO5.out ((N + 1) * 5) (inI (-8) 8))
    have e : (m ++ [inI (-7) 7, insZ]).set (N + 1) (inI (-8) 8) = m ++ [inI (-7) 7, inI (-8) 8] := by rw [← hN.out]; exact set_last2 m _ _
    have h2 := h1.1
    rw [set5_cells _ _ _ (by simp [hN.out]), e] at h2
    have h3 := HB4.out.trans (b5.mono HB4.out.size)
    have h4 := h3.grown h1.2 h3.size (fun k hk => by cases hk; exact HG.out)
    exact ⟨h4, HP.out.kept h4, h2⟩)
  obtain ⟨w6, hw6⟩ : ∃ w6, Hid (put5 w5 g ((N + 1) * 5) (inI (-8) 8) = w6) := ⟨_, rfl⟩
  rw [hw6.out] at HK6
  rw [show ((((w5.setCell ⟨g, (N + 1) * 5, none⟩ (.int .i64 (-8))).setCell ⟨g, (N + 1) * 5 + 1, none⟩ (.int .i64 0)).setCell ⟨g, (N + 1) * 5 + 2, none⟩ (.int .i64 0)).setCell ⟨g, (N + 1) * 5 + 3, none⟩ (.int .i64 0)).setCell ⟨g, (N + 1) * 5 + 4, none⟩ (.int .i64 8) = w6 from hw6.out]
  clear f0 f1 f2 f3 f4 c0 c1 c2 c3 c4 b5 HO5 HO4 HO3 HO2 HB4 HB2
  have hC1 : ∀ W, Kv w a m g (N + 2) W → Calls Tryd.prog 9 #[.slice (some ⟨g, 0, none⟩) N (N + 2), .int .i64 k, .int .i64 h] W fun e w' => e = .returned (.tuple #[.int .i64 (checkL m k h).1, .int .i64 (checkL m k h).2]) ∧ Kv w a m g (N + 2) w' := fun W h1 => by
    have h2 := check8_any (some ⟨g, 0, none⟩) (N + 2) m k h W (h1.copy (by rw [hN.out])) (HF.out.kept h1.below)
    rw [hN.out] at h2
    exact h2.mono fun e w' he => ⟨he.1, h1.step he.2⟩
  have hC2 : ∀ W, Kv w a m g (N + 2) W → Calls Tryd.prog 10 #[.slice a N cap, .int .i64 k, .int .i64 h] W fun e w' => e = .returned (.tuple #[.int .i64 (checkL m k h).1, .int .i64 (checkL m k h).2]) ∧ Kv w a m g (N + 2) w' := fun W h1 => by
    have h2 := rcheck8_any a cap m k h W h1.prog
    rw [hN.out] at h2
    exact h2.mono fun e w' he => ⟨he.1, h1.step he.2⟩
  have hL1 : ∀ W, Kv w a m g (N + 2) W → Calls Tryd.prog 11 #[.slice (some ⟨g, 0, none⟩) N (N + 2), .int .i64 k] W fun e w' => e = .returned (.tuple #[.int .i64 (longL m k).1, .int .i64 (longL m k).2.1, .int .i64 (longL m k).2.2]) ∧ Kv w a m g (N + 2) w' := fun W h1 => by
    have h2 := longest_any (some ⟨g, 0, none⟩) (N + 2) m k W (h1.copy (by rw [hN.out])) (HF.out.kept h1.below)
    rw [hN.out] at h2
    exact h2.mono fun e w' he => ⟨he.1, h1.step he.2⟩
  have hL2 : ∀ W, Kv w a m g (N + 2) W → Calls Tryd.prog 12 #[.slice a N cap, .int .i64 k] W fun e w' => e = .returned (.tuple #[.int .i64 (longL m k).1, .int .i64 (longL m k).2.1, .int .i64 (longL m k).2.2]) ∧ Kv w a m g (N + 2) w' := fun W h1 => by
    have h2 := rlongest_any a cap m k W h1.prog
    rw [hN.out] at h2
    exact h2.mono fun e w' he => ⟨he.1, h1.step he.2⟩
  have hFx := fun (W : World) (h1 : Kv w a m g (N + 2) W) => fixed_any W (HF.out.kept h1.below)
  have HSm : Hid (∀ W, Kv w a m g (N + 2) W → Calls Tryd.prog 13 #[.slice (some ⟨g, 0, none⟩) N (N + 2), .slice a N cap] W fun e w' => e = .returned (.bool true) ∧ Kv w a m g (N + 2) w') := hd (fun W h1 => by
    have h2 := same8_yes (some ⟨g, 0, none⟩) a (N + 2) cap m W (by have := HL.out; omega) (h1.copy (by rw [hN.out])) h1.prog
    rw [hN.out] at h2
    exact h2.mono fun e w' he => ⟨he.1, by obtain ⟨q, hq⟩ := he.2; rw [hq]; exact h1.drewN q⟩)
  have HIn : Hid (∀ (o i : Int) (W : World), Kv w a m g (N + 2) W → Calls Tryd.prog 8 #[.int .i64 o, .int .i64 i] W fun e w' => e = .returned (.agg #[.int .i64 o, .int .i64 0, .int .i64 0, .int .i64 0, .int .i64 i]) ∧ Kv w a m g (N + 2) w') := hd (fun o i W h1 => (hI o i W).mono fun e w' he => ⟨he.1, h1.step he.2⟩)
  generalize checkL m k h = C at hC1 hC2
  generalize longL m k = L at hL1 hL2
  clear hI hcp
  go_wp2_with fail
  go_loopg [8] 2 (fun k' v8 wr => ∃ t : Nat, v8 = .int .i64 (t : Int) ∧ t + k' = 2 ∧ Hid (Kv w a m g (N + 2) wr))
  case atStart => exact ⟨0, rfl, by omega, HK6⟩
  case round =>
    obtain ⟨t, rfl, htk, HH⟩ := hrel
    clear HK6
    by_cases hlt : t < 2
    · have hlt' : (t : Int) < 2 := by omega
      have hNb : N ≤ N + 2 := by omega
      go_upto_region 13 with (first
        | (go_at_call 9; refine (hC1 _ HH.out).mono ?_; rintro e1 w1' ⟨rfl, k1⟩)
        | (go_at_call 10; refine (hC2 _ k1).mono ?_; rintro e2 w2' ⟨rfl, k2⟩)
        | (go_at_call 11; refine (hL1 _ k2).mono ?_; rintro e3 w3' ⟨rfl, k3⟩)
        | (go_at_call 12; refine (hL2 _ k3).mono ?_; rintro e4 w4' ⟨rfl, k4⟩))
      have HA7 : Hid ((m ++ [inI (-7) 7, inI (-8) 8]).getD N default = inI (-7) 7) := hd (by rw [← hN.out, List.getD_eq_getElem?_getD, List.getElem?_append_right (Nat.le_refl _)]; simp)
      have HA8 : Hid ((m ++ [inI (-7) 7, inI (-8) 8]).getD (N + 1) default = inI (-8) 8) := hd (by rw [← hN.out, List.getD_eq_getElem?_getD, List.getElem?_append_right (by omega)]; simp)
      have i7 : ∀ p : KW w a m g (N + 2), InsAt p.val g (N * 5) (inI (-7) 7) := fun p => by have := p.kp.at_ (by rw [hN.out]) N (by omega); rwa [HA7.out] at this
      have i8 : ∀ p : KW w a m g (N + 2), InsAt p.val g ((N + 1) * 5) (inI (-8) 8) := fun p => by have := p.kp.at_ (by rw [hN.out]) (N + 1) (by omega); rwa [HA8.out] at this
      have y0 : ∀ p : KW w a m g (N + 2), p.val.cell? ⟨g, N * 5, none⟩ = some (.int .i64 (-7)) := fun p => (i7 p).c0
      have y1 : ∀ p : KW w a m g (N + 2), p.val.cell? ⟨g, N * 5 + 1, none⟩ = some (.int .i64 0) := fun p => (i7 p).c1
      have y2 : ∀ p : KW w a m g (N + 2), p.val.cell? ⟨g, N * 5 + 2, none⟩ = some (.int .i64 0) := fun p => (i7 p).c2
      have y3 : ∀ p : KW w a m g (N + 2), p.val.cell? ⟨g, N * 5 + 3, none⟩ = some (.int .i64 0) := fun p => (i7 p).c3
      have y4 : ∀ p : KW w a m g (N + 2), p.val.cell? ⟨g, N * 5 + 4, none⟩ = some (.int .i64 7) := fun p => (i7 p).c4
      have z0 : ∀ p : KW w a m g (N + 2), p.val.cell? ⟨g, (N + 1) * 5, none⟩ = some (.int .i64 (-8)) := fun p => (i8 p).c0
      have z1 : ∀ p : KW w a m g (N + 2), p.val.cell? ⟨g, (N + 1) * 5 + 1, none⟩ = some (.int .i64 0) := fun p => (i8 p).c1
      have z2 : ∀ p : KW w a m g (N + 2), p.val.cell? ⟨g, (N + 1) * 5 + 2, none⟩ = some (.int .i64 0) := fun p => (i8 p).c2
      have z3 : ∀ p : KW w a m g (N + 2), p.val.cell? ⟨g, (N + 1) * 5 + 3, none⟩ = some (.int .i64 0) := fun p => (i8 p).c3
      have z4 : ∀ p : KW w a m g (N + 2), p.val.cell? ⟨g, (N + 1) * 5 + 4, none⟩ = some (.int .i64 8) := fun p => (i8 p).c4
      have q1 : ∀ p : KW w a m g (N + 2), Calls Tryd.prog 13 #[.slice (some ⟨g, 0, none⟩) N (N + 2), .slice a N cap] p.val fun e w'' => e = .returned (.bool true) ∧ ∃ p' : KW w a m g (N + 2), w'' = p'.val := fun p => (HSm.out p.val p.kp).mono fun e w'' h => ⟨h.1, ⟨w'', h.2⟩, rfl⟩
      have q2 : ∀ p : KW w a m g (N + 2), Calls Tryd.prog 8 #[.int .i64 (-7), .int .i64 7] p.val fun e w'' => e = .returned (.agg #[.int .i64 (-7), .int .i64 0, .int .i64 0, .int .i64 0, .int .i64 7]) ∧ ∃ p' : KW w a m g (N + 2), w'' = p'.val := fun p => (HIn.out (-7) 7 p.val p.kp).mono fun e w'' h => ⟨h.1, ⟨w'', h.2⟩, rfl⟩
      have q3 : ∀ p : KW w a m g (N + 2), Calls Tryd.prog 8 #[.int .i64 (-8), .int .i64 8] p.val fun e w'' => e = .returned (.agg #[.int .i64 (-8), .int .i64 0, .int .i64 0, .int .i64 0, .int .i64 8]) ∧ ∃ p' : KW w a m g (N + 2), w'' = p'.val := fun p => (HIn.out (-8) 8 p.val p.kp).mono fun e w'' h => ⟨h.1, ⟨w'', h.2⟩, rfl⟩
      have nek : Nonempty (KW w a m g (N + 2)) := ⟨⟨w4', k4⟩⟩
      clear hC1 hC2 hL1 hL2 hFx i7 i8
      refine wp_region_family (α := KW w a m g (N + 2)) KW.val (by kernel_rfl) (by kernel_rfl) ⟨w4'.drew, k4.drew⟩ rfl ?_
      repeat (go_big_quiet_step (first | with_reducible exact q1 _ | with_reducible exact q2 _ | with_reducible exact q3 _))
      refine wpQuiet_nil ?_
      rintro w' ⟨p, rfl⟩
      go_wp2_with fail
      go_roundg (gk - 1)
      case measure => omega
      case rel => exact ⟨t + 1, by go_num, by omega, hd p.kp⟩
    · have hltd : decide ((t : Int) < 2) = false := by simp; omega
      have hFx' := hFx wr HH.out
      go_wp2_with (go_at_call 7; refine hFx'.mono ?_; rintro e3 w3 ⟨rfl, b3⟩)
      go_ret
      exact ⟨rfl, HH.out.below.trans (b3.mono HH.out.below.size)⟩

theorem prg_take {w : World} {a : Option Addr} {l : List Ins} (h : Prg w a l) (n : Nat) : Prg w a (l.take n) := fun i hi => by
  have hi' : i < l.length := by simp at hi; omega
  obtain ⟨b, off, e, hx⟩ := h i hi'
  refine ⟨b, off, e, ?_⟩
  have him : i < n := by simp at hi; omega
  rwa [List.getD_eq_getElem?_getD, List.getElem?_take, if_pos him, ← List.getD_eq_getElem?_getD]
theorem take_min (l : List Ins) (n : Nat) : min (l.length : Int) (n : Int) = ((l.take n).length : Int) := by
  rw [List.length_take]
  omega
end Go.Proofs.YtehapcoppghppaaDoor
