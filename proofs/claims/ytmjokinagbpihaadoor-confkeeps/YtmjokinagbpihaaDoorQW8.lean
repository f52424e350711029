/- The reader's instruction: the walk. -/
import Derived.Test.YtmjokinagbpihaaDoorQW7
namespace Go.Proofs.YtmjokinagbpihaaDoor
open Go.RowKit

theorem wrap_u64_nat {v : Nat} : IntKind.i64.wrap (v : Int) = wrap64 (v : Int) := wrap_i64_nat v

section
variable {w : World} {r : Nat} {a : Option Addr} {cap : Nat} {bs : List Nat} {s : St}
/-- What is read, at another place. -/
theorem Rd.cut {w : World} {a : Option Addr} {bs : List Nat} {p q : Nat} (h : Rd w a (bCells bs)) (hp : p ≤ q) (hq : q ≤ bs.length) (hpq : p < q) : ∃ b o, a = some ⟨b, o, none⟩ ∧ Rd w (some ⟨b, o + p, none⟩) (bCells (cutB bs p q)) := by
  obtain ⟨b, o, rfl, _⟩ := h p (.int .u8 ((bs.getD p 0 : Nat) : Int)) (by simp [bCells, List.getD_eq_getElem?_getD, List.getElem?_eq_getElem (show p < bs.length by omega)])
  refine ⟨b, o, rfl, fun j u hj => ⟨b, o + p, rfl, ?_⟩⟩
  have hl : j < q - p := by
    rcases Nat.lt_or_ge j (q - p) with h | h
    · exact h
    · rw [List.getElem?_eq_none (by rw [bCells_len, cut_len hp hq]; exact h)] at hj; cases hj
  obtain ⟨b', o', e, hc⟩ := h (p + j) u (by
    rw [← hj]
    unfold bCells cutB
    rw [List.getElem?_map, List.getElem?_map, List.getElem?_take, if_pos hl, List.getElem?_drop])
  cases e
  rw [Nat.add_assoc]
  exact hc

theorem ROut.put {W : World} {s1 : St} (h : ROut w r a cap bs s1 W) (h0 : RdAt w r a cap bs s) {G : Nat} (hG : w.heap.size ≤ G) (i : Nat) (v : Value) : ROut w r a cap bs s1 (W.setCell ⟨G, i, none⟩ v) := by
  have hr := h0.lt
  have hm : Mod (fun k => k = G) W (W.setCell ⟨G, i, none⟩ v) := (Mod.refl (fun k => k = G) W).setCell (.inl rfl) v
  refine ⟨⟨?_, Rd.apart h0.rd h.1.rd hm (fun k hk => by omega) rfl, h.1.ne, h.1.byte, h.1.le, h.1.room, h.1.nx, h.1.fr⟩, h.2.setCell (.inr hG) v⟩
  rw [hm.block r h.1.lt (by omega)]
  exact h.1.obj

theorem five_cells {W : World} {G : Nat} {x0 x1 x2 x3 x4 v0 v1 v2 v3 v4 : Value} {T : TypeId} (h : W.heap[G]? = some (.cells #[x0, x1, x2, x3, x4] T (0, 0))) :
    (((((W.setCell ⟨G, 0, none⟩ v0).setCell ⟨G, 1, none⟩ v1).setCell ⟨G, 2, none⟩ v2).setCell ⟨G, 3, none⟩ v3).setCell ⟨G, 4, none⟩ v4).heap[G]? = some (.cells #[v0, v1, v2, v3, v4] T (0, 0)) :=
  heap_setCell_same _ G 4 _ _ v4 (heap_setCell_same _ G 3 _ _ v3 (heap_setCell_same _ G 2 _ _ v2 (heap_setCell_same _ G 1 _ _ v1 (heap_setCell_same _ G 0 _ _ v0 h))))

/-- The address of what is cut off a list's front. -/
def cutA (a : Option Addr) (cap p : Nat) : Option Addr := match a with
  | some ad => if cap = p then some ad else some (ad.add p)
  | none => none

set_option maxRecDepth 100000 in
set_option maxHeartbeats 4000000 in
theorem ins_any (h : RdAt w r a cap bs s) (hF : Fld w) (hr : 2 ≤ r) (n k : Int) :
    Calls Tryd.prog 70 #[.pointer (some ⟨r, 0, none⟩), .int .i64 n, .int .i64 k] w fun e w' => e = .returned (insV (rawI bs s)) ∧ ROut w r a cap bs (insS bs n k s) w' := by
  have H := hd h
  have HF := hd hF
  have hnx0 := h.nx
  obtain ⟨X, hX⟩ : ∃ X, Hid (rawI bs s = X) := ⟨_, rfl⟩
  obtain ⟨sI, hsI⟩ : ∃ X, Hid (insS bs n k s = X) := ⟨_, rfl⟩
  rw [hX.out, hsI.out]
  clear h hF
  go_enter Tryd.func70, Tryd.ntmps70
  go_upto_region 1 with fail
  obtain ⟨w0, hw0⟩ : ∃ W, Hid (w.alloc (.cells #[.int .i64 0, .int .i64 0, .int .i64 0, .int .i64 0, .int .i64 0] 71) = W) := ⟨_, rfl⟩
  rw [hw0.out]
  have hb0 : Below w.heap.size w w0 := by rw [← hw0.out]; exact below_al w _
  have h0 := H.out.below hb0
  have HF0 : Hid (Fld w0) := hd (HF.out.kept hb0)
  have HB0 : Hid (w0.heap[w.heap.size]? = some (.cells #[.int .i64 0, .int .i64 0, .int .i64 0, .int .i64 0, .int .i64 0] 71 (0, 0))) := hd (by rw [← hw0.out]; exact heap_alloc_new w _)
  obtain ⟨G, hG⟩ : ∃ G, Hid (w.heap.size = G) := ⟨_, rfl⟩
  rw [hG.out] at HB0 ⊢
  have hrG : r < G := by rw [← hG.out]; exact H.out.lt
  have k2 := h0.cells.2.2.1
  have O0 : Hid (ROut w r a cap bs s w0) := hd ⟨h0, Mod.of_below _ hb0⟩
  clear hb0 hw0
  replace h0 := hd h0
  go_upto_region 2 with fail
  clear k2
  clear h0
  have c1 := small_any O0.out.1 1 ⟨by omega, by omega⟩
  have c8 := rnum_any O0.out.1 8 ⟨by omega, by omega⟩
  have HX : Hid (rawI bs s = ⟨((numS bs 1 s).1 : Nat), ((numS bs 1 (numS bs 1 s).2).1 : Nat), ((numS bs 1 (numS bs 1 (numS bs 1 s).2).2).1 : Nat), ((numS bs 1 (numS bs 1 (numS bs 1 (numS bs 1 s).2).2).2).1 : Nat), wrap64 ((numS bs 8 (numS bs 1 (numS bs 1 (numS bs 1 (numS bs 1 s).2).2).2).2).1 : Nat)⟩) := hd rfl
  have HY : Hid (rawS bs s = (numS bs 8 (numS bs 1 (numS bs 1 (numS bs 1 (numS bs 1 s).2).2).2).2).2) := hd rfl
  have HM : Hid (Mod (fun k => k = r) w0 w0) := hd (Mod.refl _ _)
  go_upto_region 3 with (first | (go_at_call 67; refine c1.mono ?_; rintro e w1 ⟨rfl, o1⟩; replace HM := hd (HM.out.trans o1.2 (fun _ h => .inl h)); replace O0 := hd (O0.out.trans o1); clear o1 c1 c8; have c1 := small_any O0.out.1 1 ⟨by omega, by omega⟩; have c8 := rnum_any O0.out.1 8 ⟨by omega, by omega⟩) | (go_at_call 69; refine c8.mono ?_; rintro e w2 ⟨rfl, o1⟩; replace HM := hd (HM.out.trans o1.2 (fun _ h => .inl h)); replace O0 := hd (O0.out.trans o1); clear o1 c1 c8))
  have hnx := raw_nx (bs := bs) (s := s) (by exact hnx0)
  rw [HY.out] at hnx
  have HI : Hid (insS bs n k s = failS (rawS bs s) (wrong (rawI bs s) n k).1 (s.nx + plI bs s (wrong (rawI bs s) n k).1)) := hd rfl
  have HPL : Hid (∀ E, plI bs s E = if E = 13 then 4 else (decR (cutB bs s.nx (rawS bs s).nx)).2) := hd fun _ => rfl
  rw [HX.out, HY.out] at HI
  rw [HY.out] at HPL
  rw [HX.out] at hX
  rw [hsI.out] at HI
  clear HX HY hsI
  generalize plI bs s = PL at *
  generalize (numS bs 8 (numS bs 1 (numS bs 1 (numS bs 1 (numS bs 1 s).2).2).2).2).1 = v5 at *
  generalize (numS bs 8 (numS bs 1 (numS bs 1 (numS bs 1 (numS bs 1 s).2).2).2).2).2 = s5 at *
  generalize (numS bs 1 (numS bs 1 (numS bs 1 (numS bs 1 s).2).2).2).1 = v4 at *
  generalize (numS bs 1 (numS bs 1 (numS bs 1 s).2).2).1 = v3 at *
  generalize (numS bs 1 (numS bs 1 s).2).1 = v2 at *
  generalize (numS bs 1 s).1 = v1 at *
  generalize wrap64 (v5 : Int) = im at *
  obtain ⟨w3, hw3⟩ : ∃ W, Hid (w2.alloc (.cells #[.int .i64 (v1 : Int), .int .i64 (v2 : Int), .int .i64 (v3 : Int), .int .i64 (v4 : Int), .int .i64 im] 71) = W) := ⟨_, rfl⟩
  rw [hw3.out]
  have hb3 : Below w2.heap.size w2 w3 := by rw [← hw3.out]; exact below_al w2 _
  have HB2 : Hid (w3.heap[w2.heap.size]? = some (.cells #[.int .i64 (v1 : Int), .int .i64 (v2 : Int), .int .i64 (v3 : Int), .int .i64 (v4 : Int), .int .i64 im] 71 (0, 0))) := hd (by rw [← hw3.out]; exact heap_alloc_new w2 _)
  have HG : Hid (w3.heap[G]? = some (.cells #[.int .i64 0, .int .i64 0, .int .i64 0, .int .i64 0, .int .i64 0] 71 (0, 0))) := hd (by
    have h1 := (Array.getElem?_eq_some_iff.1 HB0.out).1
    rw [hb3.block G (Nat.lt_of_lt_of_le h1 HM.out.size), HM.out.block G h1 (by omega)]
    exact HB0.out)
  have hGG : G < w2.heap.size := Nat.lt_of_lt_of_le (Array.getElem?_eq_some_iff.1 HB0.out).1 HM.out.size
  have HF3 : Hid (Fld w3) := hd ((HF0.out.mod HM.out (by omega)).kept hb3)
  have O3 : Hid (ROut w r a cap bs s5 w3) := hd (O0.out.after hb3)
  obtain ⟨G2, hG2⟩ : ∃ G, Hid (w2.heap.size = G) := ⟨_, rfl⟩
  rw [hG2.out] at HB2 hGG ⊢
  clear hb3 hw3 HB0 HM O0 hG2 HF0
  have hck := check_any ⟨v1, v2, v3, v4, im⟩ n k w3 HF3.out
  unfold insV at hck
  simp only at hck
  have x0 := cell_of_row w3 G2 0 _ _ _ HB2.out
  have x1 := cell_of_row w3 G2 1 _ _ _ HB2.out
  have x2 := cell_of_row w3 G2 2 _ _ _ HB2.out
  have x3 := cell_of_row w3 G2 3 _ _ _ HB2.out
  have x4 := cell_of_row w3 G2 4 _ _ _ HB2.out
  simp at x0 x1 x2 x3 x4
  generalize (wrong ⟨v1, v2, v3, v4, im⟩ n k).1 = E at *
  go_upto_region 4 with (go_at_call 65; refine hck.mono ?_; rintro e w4 ⟨rfl, hb4⟩)
  clear x0 x1 x2 x3 x4 hck
  replace HB2 : Hid (w4.heap[G2]? = some (.cells #[.int .i64 (v1 : Int), .int .i64 (v2 : Int), .int .i64 (v3 : Int), .int .i64 (v4 : Int), .int .i64 im] 71 (0, 0))) := hd (by rw [hb4.block G2 (Array.getElem?_eq_some_iff.1 HB2.out).1]; exact HB2.out)
  replace HG : Hid (w4.heap[G]? = some (.cells #[.int .i64 0, .int .i64 0, .int .i64 0, .int .i64 0, .int .i64 0] 71 (0, 0))) := hd (by rw [hb4.block G (Array.getElem?_eq_some_iff.1 HG.out).1]; exact HG.out)
  replace HF3 : Hid (Fld w4) := hd (HF3.out.kept hb4)
  replace O3 : Hid (ROut w r a cap bs s5 w4) := hd (O3.out.after hb4)
  clear hb4
  by_cases hE : E = 0
  · have HR : Hid (ROut w r a cap bs sI w4) := hd (by rw [HI.out, hE, failS_ok]; exact O3.out)
    subst hE
    have x0 := cell_of_row w4 G2 0 _ _ _ HB2.out
    have x1 := cell_of_row w4 G2 1 _ _ _ HB2.out
    have x2 := cell_of_row w4 G2 2 _ _ _ HB2.out
    have x3 := cell_of_row w4 G2 3 _ _ _ HB2.out
    have x4 := cell_of_row w4 G2 4 _ _ _ HB2.out
    have g0 := cell_of_row w4 G 0 _ _ _ HG.out
    have g1 := cell_of_row w4 G 1 _ _ _ HG.out
    have g2 := cell_of_row w4 G 2 _ _ _ HG.out
    have g3 := cell_of_row w4 G 3 _ _ _ HG.out
    have g4 := cell_of_row w4 G 4 _ _ _ HG.out
    simp at x0 x1 x2 x3 x4 g0 g1 g2 g3 g4
    have fr : ∀ i, w4.frozen? ⟨G, i, none⟩ = false := fun i => by simp [World.frozen?, HG.out]
    have HZ : Hid (ROut w r a cap bs sI (((((w4.setCell ⟨G, 0, none⟩ (.int .i64 (v1 : Int))).setCell ⟨G, 1, none⟩ (.int .i64 (v2 : Int))).setCell ⟨G, 2, none⟩ (.int .i64 (v3 : Int))).setCell ⟨G, 3, none⟩ (.int .i64 (v4 : Int))).setCell ⟨G, 4, none⟩ (.int .i64 im))) := hd
      (((((HR.out.put H.out (Nat.le_of_eq hG.out) _ _).put H.out (Nat.le_of_eq hG.out) _ _).put H.out (Nat.le_of_eq hG.out) _ _).put H.out (Nat.le_of_eq hG.out) _ _).put H.out (Nat.le_of_eq hG.out) _ _)
    have HH := hd (five_cells (v0 := .int .i64 (v1 : Int)) (v1 := .int .i64 (v2 : Int)) (v2 := .int .i64 (v3 : Int)) (v3 := .int .i64 (v4 : Int)) (v4 := .int .i64 im) HG.out)
    go_wp2_with fail
    obtain rfl : X = ⟨v1, v2, v3, v4, im⟩ := hX.out.symm
    generalize (((((w4.setCell ⟨G, 0, none⟩ (.int .i64 (v1 : Int))).setCell ⟨G, 1, none⟩ (.int .i64 (v2 : Int))).setCell ⟨G, 2, none⟩ (.int .i64 (v3 : Int))).setCell ⟨G, 3, none⟩ (.int .i64 (v4 : Int))).setCell ⟨G, 4, none⟩ (.int .i64 im)) = WZ at *
    have c0 := cell_of_row WZ G 0 _ _ _ HH.out
    have c1 := cell_of_row WZ G 1 _ _ _ HH.out
    have c2 := cell_of_row WZ G 2 _ _ _ HH.out
    have c3 := cell_of_row WZ G 3 _ _ _ HH.out
    have c4 := cell_of_row WZ G 4 _ _ _ HH.out
    simp at c0 c1 c2 c3 c4
    (try simp only [Exit.inBlock, Exit.then])
    refine bodyPost_ret (v := insV ⟨v1, v2, v3, v4, im⟩) ?_ rfl ⟨rfl, HZ.out⟩
    simp [results, Tryd.results70, go_sem, insV, c0, c1, c2, c3, c4]
  · have hE' : (E == 0) = false := by simpa using hE
    have k0 := O3.out.1.cells.1
    have k2 := O3.out.1.cells.2.2.1
    have hle := O3.out.1.le
    have hcap := O3.out.1.room
    have q1 : (s.nx : Int) ≤ (s5.nx : Int) := by omega
    have q2 : (s5.nx : Int) ≤ (bs.length : Int) := by omega
    have q3 : (s5.nx : Int) ≤ (cap : Int) := by omega
    have hPL : 0 ≤ PL E ∧ PL E ≤ 12 := by
      rw [HPL.out]
      split
      · omega
      · have h1 := decR_place (cutB bs s.nx s5.nx)
        have h2 := cut_len hnx.1 hnx.2.1
        omega
    obtain ⟨AP, hAP, HPC⟩ : ∃ AP, Hid (∀ ad, a = some ad → (if cap = s.nx then some ad else some (ad.add s.nx)) = AP) ∧ Hid ((a = none → AP = none) ∧ Calls Tryd.prog 75 #[.slice AP (s5.nx - s.nx) (cap - s.nx), .int .i64 E] w4.drew fun e w' => e = .returned (.int .i64 (PL E)) ∧ Below w4.heap.size w4 w') := by
      refine ⟨cutA a cap s.nx, hd (fun ad h => by rw [h]; rfl), hd ⟨fun h => by rw [h]; rfl, ?_⟩⟩
      have hbw : Below w4.heap.size w4 w4.drew := below_draw w4 1
      have hl := cut_len hnx.1 hnx.2.1
      have hbt : Byt w4.drew (cutA a cap s.nx) (cutB bs s.nx s5.nx) := by
        by_cases hz : s.nx < s5.nx
        · obtain ⟨b, o, rfl, hc⟩ := Rd.cut O3.out.1.rd hnx.1 hnx.2.1 hz
          unfold cutA
          simp only
          rw [if_neg (by omega), addr_add]
          exact Byt.of_rd (hc.below hbw)
        · intro i hi
          omega
      have hp := place_any _ (cap - s.nx) (cutB bs s.nx s5.nx) E w4.drew hbt (HF3.out.kept hbw) (fun i => by
        by_cases hi : i < s5.nx - s.nx
        · rw [cut_at hi]; exact H.out.byte _
        · rw [List.getD_eq_getElem?_getD, List.getElem?_eq_none (by omega)]; decide) (by omega)
      rw [hl, ← HPL.out] at hp
      exact hp.mono fun e w' ⟨he, hb⟩ => ⟨he, hbw.trans hb⟩
    have HFC : Hid (∀ W, Below w4.heap.size w4 W → Calls Tryd.prog 68 #[.pointer (some ⟨r, 0, none⟩), .int .i64 E, .int .i64 (s.nx + PL E)] W fun e w' => e = .returned (.tuple #[]) ∧ ROut W r a cap bs sI w') := hd (by
      intro W hW
      have := fail_any (O3.out.after hW).1 E (s.nx + PL E)
      rw [← HI.out] at this
      exact this)
    have HEND : Hid (∀ W W', Below w4.heap.size w4 W → ROut W r a cap bs sI W' → ROut w r a cap bs sI W' ∧ W'.heap[G2]? = some (.cells #[.int .i64 (v1 : Int), .int .i64 (v2 : Int), .int .i64 (v3 : Int), .int .i64 (v4 : Int), .int .i64 im] 71 (0, 0)) ∧ W'.heap[G]? = some (.cells #[.int .i64 0, .int .i64 0, .int .i64 0, .int .i64 0, .int .i64 0] 71 (0, 0))) := hd (by
      intro W W' hW ho
      have l2 := (Array.getElem?_eq_some_iff.1 HB2.out).1
      have l1 := (Array.getElem?_eq_some_iff.1 HG.out).1
      refine ⟨(O3.out.after hW).trans ho, ?_, ?_⟩
      · rw [ho.2.block G2 (Nat.lt_of_lt_of_le l2 hW.size) (by omega), hW.block G2 l2]
        exact HB2.out
      · rw [ho.2.block G (Nat.lt_of_lt_of_le l1 hW.size) (by omega), hW.block G l1]
        exact HG.out)
    clear HI HPL HF3 HB2 HG O3 HF
    generalize PL E = D at *
    obtain ⟨Z, hZ⟩ : ∃ Z, (s.nx : Int) + D = Z := ⟨_, rfl⟩
    have hZ2 : IntKind.i64.wrap ((s.nx : Int) + D) = Z := by rw [hZ, IntKind.wrap_i64]; omega
    rw [hZ] at HFC
    clear hZ
    go_upto_region 5 with fail
    have hpc := HPC.out.2
    have hnn : s5.nx - s.nx ≤ 12 := by omega
    have hanone : Hid (a = none → AP = none) := hd HPC.out.1
    clear HPC
    replace hnx := hd hnx
    cases a with
    | none =>
      obtain rfl : AP = none := hanone.out rfl
      clear hAP hanone
      go_region_with (first | (go_at_call 75; refine hpc.mono ?_; rintro e w5 ⟨rfl, hb5⟩) | (go_at_call 68; with_reducible refine (HFC.out w5 hb5).mono ?_; rintro e w6 ⟨rfl, o6⟩))
      · obtain ⟨HR, HB2, HG⟩ := HEND.out w5 w6 hb5 o6
        replace HR := hd HR
        replace HB2 := hd HB2
        replace HG := hd HG
        have x0 := cell_of_row w6 G2 0 _ _ _ HB2.out
        have x1 := cell_of_row w6 G2 1 _ _ _ HB2.out
        have x2 := cell_of_row w6 G2 2 _ _ _ HB2.out
        have x3 := cell_of_row w6 G2 3 _ _ _ HB2.out
        have x4 := cell_of_row w6 G2 4 _ _ _ HB2.out
        have g0 := cell_of_row w6 G 0 _ _ _ HG.out
        have g1 := cell_of_row w6 G 1 _ _ _ HG.out
        have g2 := cell_of_row w6 G 2 _ _ _ HG.out
        have g3 := cell_of_row w6 G 3 _ _ _ HG.out
        have g4 := cell_of_row w6 G 4 _ _ _ HG.out
        simp at x0 x1 x2 x3 x4 g0 g1 g2 g3 g4
        have fr : ∀ i, w6.frozen? ⟨G, i, none⟩ = false := fun i => by simp [World.frozen?, HG.out]
        have HZ : Hid (ROut w r none cap bs sI (((((w6.setCell ⟨G, 0, none⟩ (.int .i64 (v1 : Int))).setCell ⟨G, 1, none⟩ (.int .i64 (v2 : Int))).setCell ⟨G, 2, none⟩ (.int .i64 (v3 : Int))).setCell ⟨G, 3, none⟩ (.int .i64 (v4 : Int))).setCell ⟨G, 4, none⟩ (.int .i64 im))) := hd
          (((((HR.out.put H.out (Nat.le_of_eq hG.out) _ _).put H.out (Nat.le_of_eq hG.out) _ _).put H.out (Nat.le_of_eq hG.out) _ _).put H.out (Nat.le_of_eq hG.out) _ _).put H.out (Nat.le_of_eq hG.out) _ _)
        have HH := hd (five_cells (v0 := .int .i64 (v1 : Int)) (v1 := .int .i64 (v2 : Int)) (v2 := .int .i64 (v3 : Int)) (v3 := .int .i64 (v4 : Int)) (v4 := .int .i64 im) HG.out)
        go_wp2_with fail
        obtain rfl : X = ⟨v1, v2, v3, v4, im⟩ := hX.out.symm
        generalize (((((w6.setCell ⟨G, 0, none⟩ (.int .i64 (v1 : Int))).setCell ⟨G, 1, none⟩ (.int .i64 (v2 : Int))).setCell ⟨G, 2, none⟩ (.int .i64 (v3 : Int))).setCell ⟨G, 3, none⟩ (.int .i64 (v4 : Int))).setCell ⟨G, 4, none⟩ (.int .i64 im)) = WZ at *
        have c0 := cell_of_row WZ G 0 _ _ _ HH.out
        have c1 := cell_of_row WZ G 1 _ _ _ HH.out
        have c2 := cell_of_row WZ G 2 _ _ _ HH.out
        have c3 := cell_of_row WZ G 3 _ _ _ HH.out
        have c4 := cell_of_row WZ G 4 _ _ _ HH.out
        simp at c0 c1 c2 c3 c4
        (try simp only [Exit.inBlock, Exit.then])
        refine bodyPost_ret (v := insV ⟨v1, v2, v3, v4, im⟩) ?_ rfl ⟨rfl, HZ.out⟩
        simp [results, Tryd.results70, go_sem, insV, c0, c1, c2, c3, c4]
      · obtain ⟨HR, HB2, HG⟩ := HEND.out w5 w6 hb5 o6
        replace HR := hd HR
        replace HB2 := hd HB2
        replace HG := hd HG
        have x0 := cell_of_row w6 G2 0 _ _ _ HB2.out
        have x1 := cell_of_row w6 G2 1 _ _ _ HB2.out
        have x2 := cell_of_row w6 G2 2 _ _ _ HB2.out
        have x3 := cell_of_row w6 G2 3 _ _ _ HB2.out
        have x4 := cell_of_row w6 G2 4 _ _ _ HB2.out
        have g0 := cell_of_row w6 G 0 _ _ _ HG.out
        have g1 := cell_of_row w6 G 1 _ _ _ HG.out
        have g2 := cell_of_row w6 G 2 _ _ _ HG.out
        have g3 := cell_of_row w6 G 3 _ _ _ HG.out
        have g4 := cell_of_row w6 G 4 _ _ _ HG.out
        simp at x0 x1 x2 x3 x4 g0 g1 g2 g3 g4
        have fr : ∀ i, w6.frozen? ⟨G, i, none⟩ = false := fun i => by simp [World.frozen?, HG.out]
        have HZ : Hid (ROut w r none cap bs sI (((((w6.setCell ⟨G, 0, none⟩ (.int .i64 (v1 : Int))).setCell ⟨G, 1, none⟩ (.int .i64 (v2 : Int))).setCell ⟨G, 2, none⟩ (.int .i64 (v3 : Int))).setCell ⟨G, 3, none⟩ (.int .i64 (v4 : Int))).setCell ⟨G, 4, none⟩ (.int .i64 im))) := hd
          (((((HR.out.put H.out (Nat.le_of_eq hG.out) _ _).put H.out (Nat.le_of_eq hG.out) _ _).put H.out (Nat.le_of_eq hG.out) _ _).put H.out (Nat.le_of_eq hG.out) _ _).put H.out (Nat.le_of_eq hG.out) _ _)
        have HH := hd (five_cells (v0 := .int .i64 (v1 : Int)) (v1 := .int .i64 (v2 : Int)) (v2 := .int .i64 (v3 : Int)) (v3 := .int .i64 (v4 : Int)) (v4 := .int .i64 im) HG.out)
        go_wp2_with fail
        obtain rfl : X = ⟨v1, v2, v3, v4, im⟩ := hX.out.symm
        generalize (((((w6.setCell ⟨G, 0, none⟩ (.int .i64 (v1 : Int))).setCell ⟨G, 1, none⟩ (.int .i64 (v2 : Int))).setCell ⟨G, 2, none⟩ (.int .i64 (v3 : Int))).setCell ⟨G, 3, none⟩ (.int .i64 (v4 : Int))).setCell ⟨G, 4, none⟩ (.int .i64 im)) = WZ at *
        have c0 := cell_of_row WZ G 0 _ _ _ HH.out
        have c1 := cell_of_row WZ G 1 _ _ _ HH.out
        have c2 := cell_of_row WZ G 2 _ _ _ HH.out
        have c3 := cell_of_row WZ G 3 _ _ _ HH.out
        have c4 := cell_of_row WZ G 4 _ _ _ HH.out
        simp at c0 c1 c2 c3 c4
        (try simp only [Exit.inBlock, Exit.then])
        refine bodyPost_ret (v := insV ⟨v1, v2, v3, v4, im⟩) ?_ rfl ⟨rfl, HZ.out⟩
        simp [results, Tryd.results70, go_sem, insV, c0, c1, c2, c3, c4]
    | some ad =>
      have eAP := hAP.out ad rfl
      clear hAP hanone
      go_region_with (first | (go_at_call 75; refine hpc.mono ?_; rintro e w5 ⟨rfl, hb5⟩) | (go_at_call 68; with_reducible refine (HFC.out w5 hb5).mono ?_; rintro e w6 ⟨rfl, o6⟩))
      · obtain ⟨HR, HB2, HG⟩ := HEND.out w5 w6 hb5 o6
        replace HR := hd HR
        replace HB2 := hd HB2
        replace HG := hd HG
        have x0 := cell_of_row w6 G2 0 _ _ _ HB2.out
        have x1 := cell_of_row w6 G2 1 _ _ _ HB2.out
        have x2 := cell_of_row w6 G2 2 _ _ _ HB2.out
        have x3 := cell_of_row w6 G2 3 _ _ _ HB2.out
        have x4 := cell_of_row w6 G2 4 _ _ _ HB2.out
        have g0 := cell_of_row w6 G 0 _ _ _ HG.out
        have g1 := cell_of_row w6 G 1 _ _ _ HG.out
        have g2 := cell_of_row w6 G 2 _ _ _ HG.out
        have g3 := cell_of_row w6 G 3 _ _ _ HG.out
        have g4 := cell_of_row w6 G 4 _ _ _ HG.out
        simp at x0 x1 x2 x3 x4 g0 g1 g2 g3 g4
        have fr : ∀ i, w6.frozen? ⟨G, i, none⟩ = false := fun i => by simp [World.frozen?, HG.out]
        have HZ : Hid (ROut w r (some ad) cap bs sI (((((w6.setCell ⟨G, 0, none⟩ (.int .i64 (v1 : Int))).setCell ⟨G, 1, none⟩ (.int .i64 (v2 : Int))).setCell ⟨G, 2, none⟩ (.int .i64 (v3 : Int))).setCell ⟨G, 3, none⟩ (.int .i64 (v4 : Int))).setCell ⟨G, 4, none⟩ (.int .i64 im))) := hd
          (((((HR.out.put H.out (Nat.le_of_eq hG.out) _ _).put H.out (Nat.le_of_eq hG.out) _ _).put H.out (Nat.le_of_eq hG.out) _ _).put H.out (Nat.le_of_eq hG.out) _ _).put H.out (Nat.le_of_eq hG.out) _ _)
        have HH := hd (five_cells (v0 := .int .i64 (v1 : Int)) (v1 := .int .i64 (v2 : Int)) (v2 := .int .i64 (v3 : Int)) (v3 := .int .i64 (v4 : Int)) (v4 := .int .i64 im) HG.out)
        go_wp2_with fail
        obtain rfl : X = ⟨v1, v2, v3, v4, im⟩ := hX.out.symm
        generalize (((((w6.setCell ⟨G, 0, none⟩ (.int .i64 (v1 : Int))).setCell ⟨G, 1, none⟩ (.int .i64 (v2 : Int))).setCell ⟨G, 2, none⟩ (.int .i64 (v3 : Int))).setCell ⟨G, 3, none⟩ (.int .i64 (v4 : Int))).setCell ⟨G, 4, none⟩ (.int .i64 im)) = WZ at *
        have c0 := cell_of_row WZ G 0 _ _ _ HH.out
        have c1 := cell_of_row WZ G 1 _ _ _ HH.out
        have c2 := cell_of_row WZ G 2 _ _ _ HH.out
        have c3 := cell_of_row WZ G 3 _ _ _ HH.out
        have c4 := cell_of_row WZ G 4 _ _ _ HH.out
        simp at c0 c1 c2 c3 c4
        (try simp only [Exit.inBlock, Exit.then])
        refine bodyPost_ret (v := insV ⟨v1, v2, v3, v4, im⟩) ?_ rfl ⟨rfl, HZ.out⟩
        simp [results, Tryd.results70, go_sem, insV, c0, c1, c2, c3, c4]
      · obtain ⟨HR, HB2, HG⟩ := HEND.out w5 w6 hb5 o6
        replace HR := hd HR
        replace HB2 := hd HB2
        replace HG := hd HG
        have x0 := cell_of_row w6 G2 0 _ _ _ HB2.out
        have x1 := cell_of_row w6 G2 1 _ _ _ HB2.out
        have x2 := cell_of_row w6 G2 2 _ _ _ HB2.out
        have x3 := cell_of_row w6 G2 3 _ _ _ HB2.out
        have x4 := cell_of_row w6 G2 4 _ _ _ HB2.out
        have g0 := cell_of_row w6 G 0 _ _ _ HG.out
        have g1 := cell_of_row w6 G 1 _ _ _ HG.out
        have g2 := cell_of_row w6 G 2 _ _ _ HG.out
        have g3 := cell_of_row w6 G 3 _ _ _ HG.out
        have g4 := cell_of_row w6 G 4 _ _ _ HG.out
        simp at x0 x1 x2 x3 x4 g0 g1 g2 g3 g4
        have fr : ∀ i, w6.frozen? ⟨G, i, none⟩ = false := fun i => by simp [World.frozen?, HG.out]
        have HZ : Hid (ROut w r (some ad) cap bs sI (((((w6.setCell ⟨G, 0, none⟩ (.int .i64 (v1 : Int))).setCell ⟨G, 1, none⟩ (.int .i64 (v2 : Int))).setCell ⟨G, 2, none⟩ (.int .i64 (v3 : Int))).setCell ⟨G, 3, none⟩ (.int .i64 (v4 : Int))).setCell ⟨G, 4, none⟩ (.int .i64 im))) := hd
          (((((HR.out.put H.out (Nat.le_of_eq hG.out) _ _).put H.out (Nat.le_of_eq hG.out) _ _).put H.out (Nat.le_of_eq hG.out) _ _).put H.out (Nat.le_of_eq hG.out) _ _).put H.out (Nat.le_of_eq hG.out) _ _)
        have HH := hd (five_cells (v0 := .int .i64 (v1 : Int)) (v1 := .int .i64 (v2 : Int)) (v2 := .int .i64 (v3 : Int)) (v3 := .int .i64 (v4 : Int)) (v4 := .int .i64 im) HG.out)
        go_wp2_with fail
        obtain rfl : X = ⟨v1, v2, v3, v4, im⟩ := hX.out.symm
        generalize (((((w6.setCell ⟨G, 0, none⟩ (.int .i64 (v1 : Int))).setCell ⟨G, 1, none⟩ (.int .i64 (v2 : Int))).setCell ⟨G, 2, none⟩ (.int .i64 (v3 : Int))).setCell ⟨G, 3, none⟩ (.int .i64 (v4 : Int))).setCell ⟨G, 4, none⟩ (.int .i64 im)) = WZ at *
        have c0 := cell_of_row WZ G 0 _ _ _ HH.out
        have c1 := cell_of_row WZ G 1 _ _ _ HH.out
        have c2 := cell_of_row WZ G 2 _ _ _ HH.out
        have c3 := cell_of_row WZ G 3 _ _ _ HH.out
        have c4 := cell_of_row WZ G 4 _ _ _ HH.out
        simp at c0 c1 c2 c3 c4
        (try simp only [Exit.inBlock, Exit.then])
        refine bodyPost_ret (v := insV ⟨v1, v2, v3, v4, im⟩) ?_ rfl ⟨rfl, HZ.out⟩
        simp [results, Tryd.results70, go_sem, insV, c0, c1, c2, c3, c4]
end
end Go.Proofs.YtmjokinagbpihaaDoor
