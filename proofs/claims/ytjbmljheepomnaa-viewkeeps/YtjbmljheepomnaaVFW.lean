/- few: short enough to be copied. -/
import Derived.Test.YtjbmljheepomnaaVD2
namespace Go.Proofs.Ytjbmljheepomnaa
open Go.RowKit

def FewOut (w : World) (x : StX) (e : Ending) (w' : World) : Prop := ∃ b : Bool, e = .returned (.bool b) ∧ (b = true → StFew x) ∧ Below w.heap.size w w'
theorem getD_big {α : Type} [Inhabited α] {l : List α} {j : Nat} (h : l.length ≤ j) : l.getD j default = default := by
  rw [List.getD_eq_getElem?_getD, List.getElem?_eq_none h]
  rfl
theorem PtFew.zero : PtFew pt0 := ⟨Nat.zero_le _, Nat.zero_le _, Nat.zero_le _, fun j => by rw [getD_big (Nat.zero_le _)]; exact Nat.zero_le _⟩
theorem PrFew.zero : PrFew pr0 := ⟨Nat.zero_le _, fun j => by rw [getD_big (Nat.zero_le _)]; exact ⟨Nat.zero_le _, Nat.zero_le _⟩⟩
def Lim (L : Int) : Prop := -281474976710656 ≤ L ∧ L ≤ 1048576
set_option maxRecDepth 100000 in
set_option maxHeartbeats 16000000 in
theorem few_any {w : World} {cs : List Value} {x : StX} (hx : sE w cs x) : Calls Try.prog 7 #[.agg cs.toArray] w (FewOut w x) := by
  obtain ⟨tk, pp, pq⟩ := x
  obtain ⟨u, v, e1, k1, k2⟩ := hx
  simp only at e1 k1 k2
  subst e1
  obtain ⟨la, lc, rfl, hl1, hA⟩ := k1.at' (by decide)
  obtain ⟨lb, ld, rfl, hl2, hB⟩ := k2.at' (by decide)
  have HA := hd hA
  have HB := hd hB
  obtain ⟨Q0, hQ⟩ : ∃ Q, Hid (FewOut w ⟨tk, pp, pq⟩ = Q) := ⟨_, rfl⟩
  rw [hQ.out]
  unfold BIG at hl1 hl2
  obtain ⟨np, hnp⟩ : ∃ n, Hid (pp.length = n) := ⟨_, rfl⟩
  obtain ⟨nq, hnq⟩ : ∃ n, Hid (pq.length = n) := ⟨_, rfl⟩
  rw [hnp.out] at HA hl1 ⊢
  rw [hnq.out] at HB hl2 ⊢
  clear hA hB k1 k2
  go_enter Try.func7, Try.ntmps7
  go_upto_region 1 with fail
  have hal := heap_alloc_new w (.cells #[.int .i64 tk, .slice la np lc, .slice lb nq ld] 30)
  have hbl := below_al w (.cells #[.int .i64 tk, .slice la np lc, .slice lb nq ld] 30)
  obtain ⟨W0, hW0⟩ : ∃ W, Hid (w.alloc (.cells #[.int .i64 tk, .slice la np lc, .slice lb nq ld] 30) = W) := ⟨_, rfl⟩
  rw [hW0.out] at hal hbl ⊢
  obtain ⟨B, hB⟩ : ∃ n, Hid (w.heap.size = n) := ⟨_, rfl⟩
  rw [hB.out] at hal ⊢
  have HBW := hd hbl
  have HX : Hid (∀ V, Below W0.heap.size W0 V → V.cell? ⟨B, 1, none⟩ = some (.slice la np lc) ∧ V.cell? ⟨B, 2, none⟩ = some (.slice lb nq ld) ∧ Below w.heap.size w V) := hd (fun V hb => by
    have h := (hb.block B (Array.getElem?_eq_some_iff.1 hal).1).trans hal
    exact ⟨box_at1 h rfl, box_at1 h rfl, HBW.out.trans (hb.mono HBW.out.size)⟩)
  clear hal hbl hW0
  go_upto_block 0 with fail
  go_cut [3] (fun v3 wy => ∃ L : Int, v3 = .int .i64 L ∧ Lim L ∧ Hid (0 ≤ L → np ≤ 1048576 ∧ ∀ j, PtFew (pp.getD j default)) ∧ Hid (Below W0.heap.size W0 wy))
  case first =>
    obtain ⟨x1, x2, x3⟩ := HX.out W0 (below_same _)
    go_wp2_with fail
    go_loopg [3, 4] np (fun k v3 v4 wr => ∃ (i : Nat) (L : Int), v3 = .int .i64 L ∧ v4 = .int .i64 (i : Int) ∧ i + k = np ∧ Lim L ∧ Hid (0 ≤ L → (i : Int) + L ≤ 1048576 ∧ ∀ j, j < i → PtFew (pp.getD j default)) ∧ Hid (Below W0.heap.size W0 wr))
    case atStart => exact ⟨0, 1048576, rfl, rfl, by omega, ⟨by omega, by omega⟩, hd (fun _ => ⟨by omega, fun j hj => absurd hj (Nat.not_lt_zero j)⟩), hd (below_same _)⟩
    case round =>
      obtain ⟨i, L, rfl, rfl, hik, hLm, HL, HBr⟩ := hrel
      obtain ⟨hLa, hLb⟩ := hLm
      clear x1 x2 x3
      obtain ⟨x1, x2, x3⟩ := HX.out wr HBr.out
      by_cases hL : 0 ≤ L
      case neg =>
        have dL : decide (0 ≤ L) = false := decide_eq_false hL
        by_cases hlt : i < np
        · have hlt' : (i : Int) < (np : Int) := by omega
          clear HL
          go_wp2_with fail
          go_meet
          case rel => exact ⟨L, rfl, ⟨hLa, hLb⟩, hd (fun h => absurd h (by omega)), HBr⟩
        · have hlt' : decide ((i : Int) < (np : Int)) = false := by simp; omega
          clear HL
          go_wp2_with fail
          go_meet
          case rel => exact ⟨L, rfl, ⟨hLa, hLb⟩, hd (fun h => absurd h (by omega)), HBr⟩
      obtain ⟨hL1, hL2⟩ := HL.out hL
      by_cases hlt : i < np
      case neg =>
        obtain rfl : i = np := by omega
        have HFN : Hid (0 ≤ L → i ≤ 1048576 ∧ ∀ j, PtFew (pp.getD j default)) := hd (fun _ => ⟨by omega, fun j => by
          by_cases hj : j < i
          · exact hL2 j hj
          · rw [getD_big (by rw [hnp.out]; omega)]; exact PtFew.zero⟩)
        clear HL hL1 hL2
        go_wp2_with fail
        go_meet
        case rel => exact ⟨L, rfl, ⟨hLa, hLb⟩, HFN, HBr⟩
      have hlt' : (i : Int) < (np : Int) := by omega
      replace hL2 := hd hL2
      obtain ⟨ga, oa, csp, ea, -, e1, e2⟩ := HA.out i hlt
      subst ea
      obtain ⟨x, hx⟩ : ∃ x, Hid (pp.getD i default = x) := ⟨_, rfl⟩
      rw [hx.out] at e1
      obtain ⟨p0, p1, p2, p3, p4, p5⟩ := x
      obtain ⟨wu, wv, wz, ew, d1, d2, d3⟩ := e1
      simp only at ew d1 d2 d3
      obtain ⟨ua, uc, -, eu, -, -, hu1, -⟩ := d1
      obtain ⟨va, vc, -, ev, -, -, hv1, -⟩ := d2
      obtain ⟨za, zc, eu3, hz1, hz2⟩ := d3.at' (by decide)
      subst eu ev eu3
      subst ew
      have HZ := hd hz2
      unfold BIG at hu1 hv1 hz1
      have q0 := e2 wr x3 0 _ rfl
      have q1 := e2 wr x3 1 _ rfl
      have q2 := e2 wr x3 2 _ rfl
      have q3 := e2 wr x3 3 _ rfl
      have q4 := e2 wr x3 4 _ rfl
      have q5 := e2 wr x3 5 _ rfl
      simp only [Nat.add_zero] at q0
      obtain ⟨nl, hnl⟩ : ∃ n, Hid (p1.length = n) := ⟨_, rfl⟩
      obtain ⟨no, hno⟩ : ∃ n, Hid (p4.length = n) := ⟨_, rfl⟩
      obtain ⟨nz, hnz⟩ : ∃ n, Hid (p5.length = n) := ⟨_, rfl⟩
      rw [hnl.out] at hu1 q1
      rw [hno.out] at hv1 q4
      rw [hnz.out] at hz1 q5 HZ
      obtain ⟨L1, hLL⟩ : ∃ L1 : Int, L1 = L - (1 + (nl : Int) + (no : Int) + (nz : Int)) := ⟨_, rfl⟩
      clear HL e2 d3 hz2
      go_upto_region 6 with fail
      have hal := heap_alloc_new wr (.cells #[.int .i64 p0, .slice ua nl uc, .int .i64 p2, .int .i64 p3, .slice va no vc, .slice (za) nz zc] 43)
      have hbl := below_al wr (.cells #[.int .i64 p0, .slice ua nl uc, .int .i64 p2, .int .i64 p3, .slice va no vc, .slice (za) nz zc] 43)
      obtain ⟨wa, hwa⟩ : ∃ W, Hid (wr.alloc (.cells #[.int .i64 p0, .slice ua nl uc, .int .i64 p2, .int .i64 p3, .slice va no vc, .slice (za) nz zc] 43) = W) := ⟨_, rfl⟩
      rw [hwa.out] at hal hbl ⊢
      obtain ⟨X, hX⟩ : ∃ n, Hid (wr.heap.size = n) := ⟨_, rfl⟩
      rw [hX.out] at hal ⊢
      have HBa := hd (HBr.out.trans (hbl.mono HBr.out.size))
      have HXa := hd hal
      have m1 := box_at1 hal (j := 1) rfl
      have m4 := box_at1 hal (j := 4) rfl
      have m5 := box_at1 hal (j := 5) rfl
      simp at m1 m4 m5
      clear q0 q1 q2 q3 q4 q5 x1 x2 x3 hal hbl hwa HBr
      obtain ⟨GK, rfl⟩ : ∃ x, x = gk := ⟨_, rfl⟩
      go_upto_block 2 with fail
      have HEND : Hid (∀ L2 : Int, (0 ≤ L2 → L2 ≤ L1 ∧ ∀ j, (p5.getD j default).length ≤ 1048576) → 0 ≤ L2 → ((i + 1 : Nat) : Int) + L2 ≤ 1048576 ∧ ∀ j, j < i + 1 → PtFew (pp.getD j default)) := hd (fun L2 HL2 h => by
        obtain ⟨z1, z2⟩ := HL2 h
        refine ⟨by omega, fun j hj => ?_⟩
        by_cases hji : j = i
        · subst hji
          rw [hx.out]
          exact ⟨by rw [hnl.out]; omega, by rw [hno.out]; omega, by rw [hnz.out]; omega, z2⟩
        · exact hL2.out j (by omega))
      go_wp2_with fail
      go_loopg [3, 6] nz (fun k v3 v6 wr => ∃ (j : Nat) (L2 : Int), v3 = .int .i64 L2 ∧ v6 = .int .i64 (j : Int) ∧ j + k = nz ∧ Lim L2 ∧ Hid (0 ≤ L2 → L2 ≤ L1 ∧ ∀ q, q < j → (p5.getD q default).length ≤ 1048576) ∧ wr = wa)
      case atStart => exact ⟨0, L1, by rw [hLL], rfl, by omega, ⟨by omega, by omega⟩, hd (fun _ => ⟨by omega, fun q hq => absurd hq (Nat.not_lt_zero q)⟩), rfl⟩
      case round =>
        obtain ⟨j, L2, rfl, rfl, hjk, hLm2, HL2, hwr⟩ := hrel
        obtain ⟨hL2a, hL2b⟩ := hLm2
        obtain rfl : wa = wr := hwr.symm
        by_cases hLz : 0 ≤ L2
        case neg =>
          have dL : decide (0 ≤ L2) = false := decide_eq_false hLz
          by_cases hltz : j < nz
          · have hltz' : (j : Int) < (nz : Int) := by omega
            clear HL2
            go_wp2_with fail
            go_roundg (GK - 1)
            case rel => exact ⟨i + 1, L2, rfl, by go_num, by omega, ⟨hL2a, hL2b⟩, hd (HEND.out L2 (fun h => absurd h (by omega))), HBa⟩
            case measure => omega
          · have hltz' : decide ((j : Int) < (nz : Int)) = false := by simp; omega
            clear HL2
            go_wp2_with fail
            go_roundg (GK - 1)
            case rel => exact ⟨i + 1, L2, rfl, by go_num, by omega, ⟨hL2a, hL2b⟩, hd (HEND.out L2 (fun h => absurd h (by omega))), HBa⟩
            case measure => omega
        obtain ⟨hz3, hz4⟩ := HL2.out hLz
        by_cases hltz : j < nz
        case neg =>
          obtain rfl : j = nz := by omega
          have HFN : Hid (0 ≤ L2 → L2 ≤ L1 ∧ ∀ q, (p5.getD q default).length ≤ 1048576) := hd (fun _ => ⟨hz3, fun q => by
            by_cases hq : q < j
            · exact hz4 q hq
            · rw [getD_big (by rw [hnz.out]; omega)]; exact Nat.zero_le _⟩)
          clear HL2 hz4
          go_wp2_with fail
          go_roundg (GK - 1)
          case rel => exact ⟨i + 1, L2, rfl, by go_num, by omega, ⟨hL2a, hL2b⟩, hd (HEND.out L2 HFN.out), HBa⟩
          case measure => omega
        have hltz' : (j : Int) < (nz : Int) := by omega
        replace hz4 := hd hz4
        obtain ⟨gz, oz, csz, ez, -, ⟨vz, evz, dz⟩, ecz⟩ := HZ.out j hltz
        obtain ⟨aq, cq, -, eq', -, -, hq1, -⟩ := dz
        subst evz
        subst ez
        subst eq'
        obtain ⟨bx1, bx2, bx3⟩ := HX.out wa HBa.out
        have hqc : wa.cell? ⟨gz, oz + j, none⟩ = some (.slice aq (p5.getD j default).length cq) := by
          have := ecz wa bx3 0 _ rfl
          simpa using this
        obtain ⟨N, hN⟩ : ∃ n, Hid ((p5.getD j default).length = n) := ⟨_, rfl⟩
        rw [hN.out] at hqc hq1
        unfold BIG at hq1
        have HNX : Hid (0 ≤ L2 - (N : Int) → L2 - (N : Int) ≤ L1 ∧ ∀ q, q < j + 1 → (p5.getD q default).length ≤ 1048576) := hd (fun h => ⟨by omega, fun q hq => by
          by_cases hqj : q = j
          · subst hqj; rw [hN.out]; omega
          · exact hz4.out q (by omega)⟩)
        clear HL2 hz4 ecz bx1 bx2 bx3 hN
        go_wp2_with fail
        go_roundg (gk - 1)
        case rel => exact ⟨j + 1, L2 - (N : Int), by go_num, by go_num, by omega, ⟨by omega, by omega⟩, HNX, rfl⟩
        case measure => omega
  case rest =>
    obtain ⟨LP, rfl, hLmP, HLP, hbP⟩ := hcut
    clear HA
    go_upto_block 4 with fail
    go_cut [3] (fun v3 wy => ∃ L : Int, v3 = .int .i64 L ∧ Lim L ∧ Hid (0 ≤ L → 0 ≤ LP ∧ nq ≤ 1048576 ∧ ∀ j, PrFew (pq.getD j default)) ∧ Hid (Below W0.heap.size W0 wy))
    case first =>
      obtain ⟨x1, x2, x3⟩ := HX.out wc hbP.out
      obtain ⟨hLPa, hLPb⟩ := hLmP
      go_wp2_with fail
      go_loopg [3, 7] nq (fun k v3 v7 wr => ∃ (i : Nat) (L : Int), v3 = .int .i64 L ∧ v7 = .int .i64 (i : Int) ∧ i + k = nq ∧ Lim L ∧ Hid (0 ≤ L → 0 ≤ LP ∧ (i : Int) + L ≤ 1048576 ∧ ∀ j, j < i → PrFew (pq.getD j default)) ∧ Hid (Below W0.heap.size W0 wr))
      case atStart => exact ⟨0, LP, rfl, rfl, by omega, ⟨hLPa, hLPb⟩, hd (fun h => ⟨h, by omega, fun j hj => absurd hj (Nat.not_lt_zero j)⟩), hbP⟩
      case round =>
        obtain ⟨i, L, rfl, rfl, hik, hLm, HL, HBr⟩ := hrel
        obtain ⟨hLa, hLb⟩ := hLm
        clear x1 x2 x3
        obtain ⟨x1, x2, x3⟩ := HX.out wr HBr.out
        by_cases hL : 0 ≤ L
        case neg =>
          have dL : decide (0 ≤ L) = false := decide_eq_false hL
          by_cases hlt : i < nq
          · have hlt' : (i : Int) < (nq : Int) := by omega
            clear HL
            go_wp2_with fail
            go_meet
            case rel => exact ⟨L, rfl, ⟨hLa, hLb⟩, hd (fun h => absurd h (by omega)), HBr⟩
          · have hlt' : decide ((i : Int) < (nq : Int)) = false := by simp; omega
            clear HL
            go_wp2_with fail
            go_meet
            case rel => exact ⟨L, rfl, ⟨hLa, hLb⟩, hd (fun h => absurd h (by omega)), HBr⟩
        obtain ⟨hL0, hL1, hL2⟩ := HL.out hL
        by_cases hlt : i < nq
        case neg =>
          obtain rfl : i = nq := by omega
          have HFN : Hid (0 ≤ L → 0 ≤ LP ∧ i ≤ 1048576 ∧ ∀ j, PrFew (pq.getD j default)) := hd (fun _ => ⟨hL0, by omega, fun j => by
            by_cases hj : j < i
            · exact hL2 j hj
            · rw [getD_big (by rw [hnq.out]; omega)]; exact PrFew.zero⟩)
          clear HL hL1 hL2
          go_wp2_with fail
          go_meet
          case rel => exact ⟨L, rfl, ⟨hLa, hLb⟩, HFN, HBr⟩
        have hlt' : (i : Int) < (nq : Int) := by omega
        replace hL2 := hd hL2
        obtain ⟨ga, oa, csp, ea, -, e1, e2⟩ := HB.out i hlt
        subst ea
        obtain ⟨x, hx⟩ : ∃ x, Hid (pq.getD i default = x) := ⟨_, rfl⟩
        rw [hx.out] at e1
        obtain ⟨wv, ew, d3⟩ := e1
        obtain ⟨za, zc, eu3, hz1, hz2⟩ := d3.at' (by decide)
        subst eu3
        subst ew
        have HZ := hd hz2
        unfold BIG at hz1
        have q14 := e2 wr x3 14 _ rfl
        obtain ⟨nz, hnz⟩ : ∃ n, Hid (x.ls.length = n) := ⟨_, rfl⟩
        rw [hnz.out] at hz1 q14 HZ
        obtain ⟨L1, hLL⟩ : ∃ L1 : Int, L1 = L - 1 := ⟨_, rfl⟩
        clear HL e2 d3 hz2
        obtain ⟨GK, rfl⟩ : ∃ x, x = gk := ⟨_, rfl⟩
        obtain ⟨wo, rfl⟩ : ∃ W, W = wr := ⟨_, rfl⟩
        have HZX : Hid (Below w.heap.size w wo) := hd x3
        clear x3
        go_upto_block 6 with fail
        have HEND : Hid (∀ L2 : Int, (0 ≤ L2 → L2 ≤ L1 ∧ nz ≤ 1048576 ∧ ∀ j, (x.ls.getD j default).vs.length ≤ 1048576 ∧ (x.ls.getD j default).ws.length ≤ 1048576) → 0 ≤ L2 → 0 ≤ LP ∧ ((i + 1 : Nat) : Int) + L2 ≤ 1048576 ∧ ∀ j, j < i + 1 → PrFew (pq.getD j default)) := hd (fun L2 HL2 h => by
          obtain ⟨z1, z3, z2⟩ := HL2 h
          refine ⟨hL0, by omega, fun j hj => ?_⟩
          by_cases hji : j = i
          · subst hji
            rw [hx.out]
            exact ⟨by rw [hnz.out]; omega, z2⟩
          · exact hL2.out j (by omega))
        go_wp2_with fail
        go_loopg [3, 9] nz (fun k v3 v9 wr => ∃ (j : Nat) (L2 : Int), v3 = .int .i64 L2 ∧ v9 = .int .i64 (j : Int) ∧ j + k = nz ∧ Lim L2 ∧ Hid (0 ≤ L2 → (j : Int) + L2 ≤ L1 ∧ ∀ q, q < j → (x.ls.getD q default).vs.length ≤ 1048576 ∧ (x.ls.getD q default).ws.length ≤ 1048576) ∧ Hid (Below wo.heap.size wo wr))
        case atStart => exact ⟨0, L1, by rw [hLL], rfl, by omega, ⟨by omega, by omega⟩, hd (fun _ => ⟨by omega, fun q hq => absurd hq (Nat.not_lt_zero q)⟩), hd (below_same _)⟩
        case round =>
          obtain ⟨j, L2, rfl, rfl, hjk, hLm2, HL2, HBi⟩ := hrel
          obtain ⟨hL2a, hL2b⟩ := hLm2
          by_cases hLz : 0 ≤ L2
          case neg =>
            have dL : decide (0 ≤ L2) = false := decide_eq_false hLz
            by_cases hltz : j < nz
            · have hltz' : (j : Int) < (nz : Int) := by omega
              clear HL2
              go_wp2_with fail
              go_roundg (GK - 1)
              case rel => exact ⟨i + 1, L2, rfl, by go_num, by omega, ⟨hL2a, hL2b⟩, hd (HEND.out L2 (fun h => absurd h (by omega))), hd (HBr.out.trans (HBi.out.mono HBr.out.size))⟩
              case measure => omega
            · have hltz' : decide ((j : Int) < (nz : Int)) = false := by simp; omega
              clear HL2
              go_wp2_with fail
              go_roundg (GK - 1)
              case rel => exact ⟨i + 1, L2, rfl, by go_num, by omega, ⟨hL2a, hL2b⟩, hd (HEND.out L2 (fun h => absurd h (by omega))), hd (HBr.out.trans (HBi.out.mono HBr.out.size))⟩
              case measure => omega
          obtain ⟨hz3, hz4⟩ := HL2.out hLz
          by_cases hltz : j < nz
          case neg =>
            obtain rfl : j = nz := by omega
            have HFN : Hid (0 ≤ L2 → L2 ≤ L1 ∧ j ≤ 1048576 ∧ ∀ q, (x.ls.getD q default).vs.length ≤ 1048576 ∧ (x.ls.getD q default).ws.length ≤ 1048576) := hd (fun _ => ⟨by omega, by omega, fun q => by
              by_cases hq : q < j
              · exact hz4 q hq
              · rw [getD_big (by rw [hnz.out]; omega)]; exact ⟨Nat.zero_le _, Nat.zero_le _⟩⟩)
            clear HL2 hz4
            go_wp2_with fail
            go_roundg (GK - 1)
            case rel => exact ⟨i + 1, L2, rfl, by go_num, by omega, ⟨hL2a, hL2b⟩, hd (HEND.out L2 HFN.out), hd (HBr.out.trans (HBi.out.mono HBr.out.size))⟩
            case measure => omega
          have hltz' : (j : Int) < (nz : Int) := by omega
          replace hz4 := hd hz4
          obtain ⟨gz, oz, csz, ez, -, ⟨v1, v2, evz, dz1, dz2⟩, ecz⟩ := HZ.out j hltz
          obtain ⟨aq, cq, -, eq1, -, -, hq1, -⟩ := dz1
          obtain ⟨ar, cr, -, eq2, -, -, hq2, -⟩ := dz2
          subst evz
          subst ez
          subst eq1 eq2
          have hbw := HZX.out.trans (HBi.out.mono HZX.out.size)
          have hqc := ecz wr hbw 0 _ rfl
          have hqd := ecz wr hbw 1 _ rfl
          simp only [Nat.add_zero] at hqc
          obtain ⟨N, hN⟩ : ∃ n, Hid ((x.ls.getD j default).vs.length = n) := ⟨_, rfl⟩
          obtain ⟨K, hK⟩ : ∃ n, Hid ((x.ls.getD j default).ws.length = n) := ⟨_, rfl⟩
          rw [hN.out] at hqc hq1
          rw [hK.out] at hqd hq2
          unfold BIG at hq1 hq2
          have s1 : IntKind.i64.wrap (1 + (N : Int)) = 1 + (N : Int) := by rw [IntKind.wrap_i64]; omega
          have s2 : IntKind.i64.wrap (1 + (N : Int) + (K : Int)) = 1 + (N : Int) + (K : Int) := by rw [IntKind.wrap_i64]; omega
          obtain ⟨L3, hL3⟩ : ∃ L3 : Int, L3 = L2 - (1 + (N : Int) + (K : Int)) := ⟨_, rfl⟩
          have s3 : IntKind.i64.wrap (L2 - (1 + (N : Int) + (K : Int))) = L3 := by rw [IntKind.wrap_i64]; omega
          have HLM : Hid (Lim L3) := hd ⟨by omega, by omega⟩
          have HNX : Hid (0 ≤ L3 → ((j + 1 : Nat) : Int) + L3 ≤ L1 ∧ ∀ q, q < j + 1 → (x.ls.getD q default).vs.length ≤ 1048576 ∧ (x.ls.getD q default).ws.length ≤ 1048576) := hd (fun h => ⟨by omega, fun q hq => by
            by_cases hqj : q = j
            · subst hqj; rw [hN.out, hK.out]; omega
            · exact hz4.out q (by omega)⟩)
          clear HL2 hz4 ecz hbw hN hK hL3
          go_upto_region 19 with fail
          go_quiet (fail)
          go_wp2_with fail
          go_roundg (gk - 1)
          case rel => exact ⟨j + 1, L3, rfl, by go_num, by omega, HLM.out, HNX, hd (HBi.out.trans ((below_draw _ _).mono HBi.out.size))⟩
          case measure => omega
    case rest =>
      obtain ⟨L, rfl, hLm, HL, hbw⟩ := hcut
      have HO : Hid (FewOut w ⟨tk, pp, pq⟩ (.returned (.bool (decide (0 ≤ L)))) wc) := hd ⟨_, rfl, fun h => by
        have h0 := of_decide_eq_true h
        obtain ⟨z1, z2, z3⟩ := HL.out h0
        obtain ⟨z4, z5⟩ := HLP.out z1
        exact ⟨by rw [hnp.out]; exact z4, by rw [hnq.out]; exact z2, z5, z3⟩, (HX.out wc hbw.out).2.2⟩
      rw [hQ.out] at HO
      go_wp2_with fail
      first | exact HO.out | (go_ret; exact HO.out)
end Go.Proofs.Ytjbmljheepomnaa
