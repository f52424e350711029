/- The law's own: ended. -/
import Derived.Test.YthldnbikephncaaLS2
namespace Go.Proofs.Ythldnbikephncaa
open Go.RowKit

theorem wset_at (xs : List Value) (i : Nat) (u v : Value) (j : Nat) (h : i < j) : ((xs.set (i * 2) u).set (i * 2 + 1) v)[j * 2]? = xs[j * 2]? ∧ ((xs.set (i * 2) u).set (i * 2 + 1) v)[j * 2 + 1]? = xs[j * 2 + 1]? := by
  rw [List.getElem?_set_ne (by omega), List.getElem?_set_ne (by omega), List.getElem?_set_ne (by omega), List.getElem?_set_ne (by omega)]
  exact ⟨rfl, rfl⟩

/-- A row of the call's own beside two lanes. -/
structure TwoR (B : Nat) (w0 w : World) (bl br : Nat) (s : LS) (Fl Fr : Nat → Prop) (a : Option Addr) (n c : Nat) (xs : List Value) : Prop where
  two : Two B w0 w bl br s Fl Fr
  row : Row w 50 2 a n c xs
  nl : ∀ k, blk a = some k → ¬ Fl k ∧ ¬ Fr k ∧ B ≤ k
section
variable {B : Nat} {w0 w w' : World} {bl br : Nat} {s : LS} {Fl Fr : Nat → Prop} {n c : Nat} {xs : List Value}
theorem TwoR.put {g : Nat} (h : TwoR B w0 w bl br s Fl Fr (some ⟨g, 0, none⟩) n c xs) (j : Nat) (u : Value) : TwoR B w0 (w.setCell ⟨g, j, none⟩ u) bl br s Fl Fr (some ⟨g, 0, none⟩) n c (xs.set j u) := by
  obtain ⟨h1, h2, h3⟩ := h.nl g rfl
  refine ⟨h.two.mod (S := fun k => k = g) ((Mod.refl (fun k => k = g) w).setCell (.inl rfl) u) (fun k hk => by rw [hk]; exact h1) (fun k hk => by rw [hk]; exact h2) (fun k hk => by rw [hk]; exact h3), h.row.put j u, h.nl⟩
theorem TwoR.bel {a : Option Addr} (h : TwoR B w0 w bl br s Fl Fr a n c xs) (hb : Below w.heap.size w w') : TwoR B w0 w' bl br s Fl Fr a n c xs := ⟨h.two.after hb, h.row.below hb, h.nl⟩
theorem TwoR.app {a a' : Option Addr} (h : TwoR B w0 w bl br s Fl Fr a n c xs) {n' c' : Nat} {ys : List Value} (hR : Row w' 50 2 a' n' c' ys) (hm : Mod (fun k => blk a = some k) w w') (hn : ∀ k, blk a' = some k → blk a = some k ∨ w.heap.size ≤ k) : TwoR B w0 w' bl br s Fl Fr a' n' c' ys := by
  refine ⟨h.two.mod hm (fun k hk => (h.nl k hk).1) (fun k hk => (h.nl k hk).2.1) (fun k hk => (h.nl k hk).2.2), hR, fun k hk => ?_⟩
  rcases hn k hk with h1 | h1
  · exact h.nl k h1
  · refine ⟨fun hf => ?_, fun hf => ?_, Nat.le_trans h.two.le h1⟩
    · have := h.two.l.lt k hf; omega
    · have := h.two.r.lt k hf; omega
end

set_option maxRecDepth 100000 in
set_option maxHeartbeats 2000000 in
theorem ended_any {B : Nat} {w0 w : World} {bl br : Nat} {s : LS} {Fl Fr : Nat → Prop} (h : Two B w0 w bl br s Fl Fr) (hn : s.ws.length ≤ 7000000000000) :
    Calls Try.prog 32 #[.pointer (some ⟨bl, 0, none⟩), .pointer (some ⟨br, 0, none⟩)] w fun e w' => e = .returned (.bool true) ∧ Two B w0 w' bl br (endL s) Fl Fr := by
  have hel := end_any h.l (by omega)
  have HT := hd h
  clear h
  obtain ⟨M, hM⟩ : ∃ M, Hid (s.ws.length = M) := ⟨_, rfl⟩
  rw [hM.out] at hel hn
  go_enter Try.func32, Try.ntmps32
  go_upto_region 2 with (first | (go_at_call 20; refine hel.mono ?_; rintro e1 w1 ⟨g, rfl, R1, hg1, M1, L1⟩))
  have hr1 : Ln w1 62 br Fr s := HT.out.r.mod M1 (fun k hk hf => HT.out.ap k hf hk)
  have hre := rend_any hr1
  have hB1 : Below B w w1 := M1.below HT.out.le (fun k _ hk => HT.out.nl k hk)
  have HR1 := hd R1
  have HL1 := hd L1
  have HB1 := hd hB1
  have hgg := hd hg1
  clear R1 L1 M1 hB1 hg1 hr1 hel
  rw [hM.out] at hre
  go_upto_region 3 with (first | (go_at_call 42; refine hre.mono ?_; rintro e2 w2 ⟨d, cd, rfl, R2, F2, M2, L2⟩))
  have HTR : Hid (TwoR B w0 w2 bl br (endL s) Fl Fr (some ⟨g, 0, none⟩) M M (wC s.ws)) := hd (by
    have hgF : ¬ Fl g ∧ ¬ Fr g := ⟨fun hf => by have := HT.out.l.lt g hf; have := hgg.out; omega, fun hf => by have := HT.out.r.lt g hf; have := hgg.out; omega⟩
    refine ⟨⟨HL1.out.mod M2 (fun k hk => HT.out.ap k hk), L2, HT.out.ap, HT.out.nl, HT.out.nr, (HT.out.bel.trans HB1.out).trans (M2.below (Nat.le_trans HT.out.le HB1.out.size) (fun k _ hk => HT.out.nr k hk)), Nat.le_trans (Nat.le_trans HT.out.le HB1.out.size) M2.size⟩, HR1.out.mod M2 (fun k hk => by cases hk; exact hgF.2), fun k hk => ?_⟩
    cases hk
    exact ⟨hgF.1, hgF.2, Nat.le_trans HT.out.le hgg.out⟩)
  have HD2 : Hid (Rd w2 d (wC s.ws)) := hd R2
  have hdg : Hid (∀ k, blk d = some k → k ≠ g) := hd (fun k hk e => by have := HT.out.r.lt k (F2 k hk); have := hgg.out; omega)
  clear R2 F2 M2 L2 HR1 HL1 HB1 hre
  go_upto_region 5 with fail
  go_wp2_with fail
  go_loopg [7] M (fun k v wr => ∃ i : Nat, v = .int .i64 i ∧ i + k = M ∧ Hid (Rd wr d (wC s.ws) ∧ ∃ xs, TwoR B w0 wr bl br (endL s) Fl Fr (some ⟨g, 0, none⟩) M M xs ∧ ∀ j, i ≤ j → j < M → xs[j * 2]? = some (.int .i64 (s.ws.getD j (0, 0)).1) ∧ xs[j * 2 + 1]? = some (.int .i64 (s.ws.getD j (0, 0)).2)))
  case atStart => exact ⟨0, rfl, by omega, hd ⟨HD2.out, _, HTR.out, fun j _ hj => wC_at s.ws j (by have := hM.out; omega)⟩⟩
  case round =>
    obtain ⟨i, rfl, hik, HH⟩ := hrel
    clear HTR HD2
    obtain ⟨HR, xs, HX, HE⟩ := HH.out
    replace HR := hd HR
    replace HX := hd HX
    replace HE := hd HE
    clear HH
    by_cases hlt : i < M
    · have hlt' : (i : Int) < (M : Int) := by omega
      obtain ⟨bb, oo, rfl, y0, y1⟩ := rd_w HR.out i (by have := hM.out; omega)
      obtain ⟨g', eg, x0⟩ := HX.out.row.cell (i * 2) (by omega)
      cases eg
      obtain ⟨g', eg, x1⟩ := HX.out.row.cell (i * 2 + 1) (by omega)
      cases eg
      rw [(HE.out i (Nat.le_refl _) hlt).1] at x0
      rw [(HE.out i (Nat.le_refl _) hlt).2] at x1
      obtain ⟨⟨zp, zv⟩, hz⟩ : ∃ z, Hid (s.ws.getD i (0, 0) = z) := ⟨_, rfl⟩
      rw [hz.out] at x0 x1 y0 y1
      simp only at x0 x1 y0 y1
      have xf := fun j => HX.out.row.free j g rfl
      have hbg : bb ≠ g := hdg.out bb rfl
      go_wp2_with fail
      go_quiet (fail)
      obtain ⟨w3, hw3⟩ : ∃ W, Hid (wr.drewN nq = W) := ⟨_, rfl⟩
      have b3 : Below wr.heap.size wr w3 := by rw [← hw3.out]; exact below_drewN (below_same wr) _
      rw [hw3.out]
      have hgl : g < wr.heap.size := HX.out.row.lt g rfl
      have x0' := (b3.cell (p := ⟨g, i * 2, none⟩) hgl).trans x0
      have x1' := (b3.cell (p := ⟨g, i * 2 + 1, none⟩) hgl).trans x1
      have xf' : ∀ j, w3.frozen? ⟨g, j, none⟩ = false := fun j => (b3.frozen (p := ⟨g, j, none⟩) hgl).trans (xf j)
      have HX' := hd (((HX.out.bel b3).put (i * 2) (.int .i64 (-9))).put (i * 2 + 1) (.int .i64 0))
      have HR' : Hid (Rd ((w3.setCell ⟨g, i * 2, none⟩ (.int .i64 (-9))).setCell ⟨g, i * 2 + 1, none⟩ (.int .i64 0)) (some ⟨bb, oo, none⟩) (wC s.ws)) := hd ((HR.out.below b3).mod (S := fun k => k = g) (fun k hk _ => hdg.out k hk) (((Mod.refl (fun k => k = g) w3).setCell (.inl rfl) _).setCell (.inl rfl) _))
      have HE' : Hid (∀ j, i + 1 ≤ j → j < M → ((xs.set (i * 2) (.int .i64 (-9))).set (i * 2 + 1) (.int .i64 0))[j * 2]? = some (.int .i64 (s.ws.getD j (0, 0)).1) ∧ ((xs.set (i * 2) (.int .i64 (-9))).set (i * 2 + 1) (.int .i64 0))[j * 2 + 1]? = some (.int .i64 (s.ws.getD j (0, 0)).2)) := hd (fun j hj hjM => by
        obtain ⟨k1, k2⟩ := wset_at xs i (.int .i64 (-9)) (.int .i64 0) j (by omega)
        rw [k1, k2]
        exact HE.out j (by omega) hjM)
      clear x0 x1 y0 y1 xf HX HE HR b3 hw3
      go_wp2_with fail
      go_roundg (gk - 1)
      case measure => omega
      case rel => exact ⟨i + 1, by go_num, by omega, hd ⟨HR'.out, _, HX'.out, HE'.out⟩⟩
    · have hltd : decide ((i : Int) < (M : Int)) = false := by simp; omega
      clear HR HE
      go_upto_region 11 with fail
      go_wp2_with fail
      go_loopg [5, 8] 9 (fun k v5 v8 wr => ∃ (i n' c : Nat) (a : Option Addr) (ys : List Value), v5 = .slice a n' c ∧ v8 = .int .i64 i ∧ i + k = 9 ∧ Hid (n' = M + i ∧ TwoR B w0 wr bl br (endL s) Fl Fr a n' c ys))
      case atStart => exact ⟨0, M, M, _, xs, rfl, rfl, by omega, hd ⟨rfl, HX.out⟩⟩
      case round =>
        clear HX
        obtain ⟨t, n', c', a, ys, rfl, rfl, htk, HH⟩ := hrel
        by_cases hlt2 : t < 9
        · have hlt2' : (t : Int) < 9 := by omega
          obtain ⟨a2, c2, w4, hap, R4, M4, B4⟩ := push_w HH.out.2.row (by have := HH.out.1; omega) (-9) 0
          have HS4 := hd (HH.out.2.app R4 M4 B4)
          have hap := hd hap
          clear R4 M4 B4
          go_wp2_with (first | (at_builtin; refine wpList_append_run rfl _ _ _ rfl _ _ _ _ rfl rfl hap.out ?_; clear hap))
          go_roundg (gk - 1)
          case measure => omega
          case rel => exact ⟨t + 1, n' + 1, c2, a2, _, rfl, by go_num, by omega, hd ⟨by have := HH.out.1; omega, HS4.out⟩⟩
        · have hltd2 : decide ((t : Int) < 9) = false := by simp; omega
          go_wp2_with fail
          go_ret
          exact ⟨rfl, HH.out.2.two⟩
end Go.Proofs.Ythldnbikephncaa
