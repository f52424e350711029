/- Two lists held against each other, element by element. -/
import Derived.Test.YtjbmljheepomnaaV0
namespace Go.Proofs.Ytjbmljheepomnaa
open Go.RowKit

set_option maxRecDepth 100000 in
set_option maxHeartbeats 4000000 in
theorem alike_ent {w : World} {va vb : Value} {xs ys : List (Int × Int × Int)} (hA : DeR 3 eE w va xs) (hB : DeR 3 eE w vb ys)
    (hS : ∀ W, Below w.heap.size w W → ∀ ca cb x y, eE W ca x → eE W cb y → Calls Try.prog 36 #[.agg ca.toArray, .agg cb.toArray] W fun e w' => e = .returned (.bool (dec (x = y))) ∧ Below W.heap.size W w')
    (hE : ∀ W cs x, Below w.heap.size w W → eE w cs x → eE W cs x) :
    Calls Try.prog 35 #[va, vb, .func (.func 36) #[] #[]] w fun e w' => e = .returned (.bool (dec (xs = ys))) ∧ Below w.heap.size w w' := by
  obtain ⟨a, c, rfl, hla, hA⟩ := hA.at' (by decide)
  obtain ⟨b, d, rfl, hlb, hB⟩ := hB.at' (by decide)
  by_cases hne : xs.length = ys.length
  case neg =>
    have e1 : dec (xs = ys) = false := dec_no (fun h => hne (by rw [h]))
    rw [e1]
    clear hA hB hS hE e1
    generalize xs.length = n at *
    generalize ys.length = k at *
    have hne' : ((n : Int) == (k : Int)) = false := by simp; omega
    go_enter Try.func35, Try.ntmps35
    go_wp2_with fail
    go_ret
    exact ⟨rfl, Below.refl _ _⟩
  have HA := hd hA
  have HB := hd hB
  have HS := hd hS
  have HE := hd hE
  obtain ⟨R, hR⟩ : ∃ R, Hid (dec (xs = ys) = R) := ⟨_, rfl⟩
  have HY : Hid ((∀ j, j < xs.length → xs.getD j default = ys.getD j default) → R = true) := hd (fun h => by
    rw [← hR.out]
    exact dec_yes (List.ext_getElem hne (fun j h1 h2 => by have := h j h1; simpa [List.getD_eq_getElem?_getD, h1, h2] using this)))
  have HN : Hid (∀ j, j < xs.length → xs.getD j default ≠ ys.getD j default → R = false) := hd (fun j hj h => by
    rw [← hR.out]
    exact dec_no (fun e => h (by rw [e])))
  rw [hR.out, ← hne]
  rw [← hne] at HB
  unfold BIG at hla
  clear hR hA hB hS hE hlb hne
  obtain ⟨n, hn⟩ : ∃ n, Hid (xs.length = n) := ⟨_, rfl⟩
  rw [hn.out] at hla HA HB HY HN ⊢
  clear hn
  go_enter Try.func35, Try.ntmps35
  go_wp2_with fail
  go_loopg [15] n (fun k v15 wr => ∃ (i : Nat), v15 = .int .i64 (i : Int) ∧ i + k = n ∧ Hid (Below w.heap.size w wr) ∧ Hid (∀ j, j < i → xs.getD j default = ys.getD j default))
  case atStart => exact ⟨0, rfl, by omega, hd (Below.refl _ _), hd (fun j hj => absurd hj (Nat.not_lt_zero j))⟩
  case round =>
    obtain ⟨i, rfl, hik, hbw, HP⟩ := hrel
    by_cases hlt : i < n
    · have hlt' : (i : Int) < (n : Int) := by omega
      obtain ⟨ga, oa, csp, ea, -, x1, x2⟩ := HA.out i hlt
      obtain ⟨gb, ob, csq, eb, -, y1, y2⟩ := HB.out i hlt
      subst ea eb
      have hst := HS.out wr.drew (hbw.out.trans ((bel_drew wr).mono hbw.out.size)) csp csq _ _ (HE.out _ _ _ (hbw.out.trans ((bel_drew wr).mono hbw.out.size)) x1) (HE.out _ _ _ (hbw.out.trans ((bel_drew wr).mono hbw.out.size)) y1)
      obtain ⟨r, hr⟩ : ∃ r, Hid (dec (xs.getD i default = ys.getD i default) = r) := ⟨_, rfl⟩
      rw [hr.out] at hst
      have HQ : Hid (r = true → ∀ j, j < i + 1 → xs.getD j default = ys.getD j default) := hd (fun h j hj => by
        rcases Nat.lt_succ_iff_lt_or_eq.1 hj with h1 | h1
        · exact HP.out j h1
        · subst h1
          rw [← hr.out] at h
          by_cases hh : xs.getD j default = ys.getD j default
          · exact hh
          · rw [dec_no hh] at h; cases h)
      have HM : Hid (r = false → R = false) := hd (fun h => HN.out i hlt (fun e => by rw [← hr.out, dec_yes e] at h; cases h))
      clear HP hr
      generalize xs.getD i default = x at x1
      generalize ys.getD i default = y at y1
      obtain ⟨p0, p1, p2⟩ := x
      obtain rfl : csp = [.int .i64 p0, .int .i64 p1, .int .i64 p2] := x1
      obtain ⟨q0, q1, q2⟩ := y
      obtain rfl : csq = [.int .i64 q0, .int .i64 q1, .int .i64 q2] := y1
      have HG : Hid (∀ W, Below wr.heap.size wr W → W.cell? ⟨ga, oa + i * 3, none⟩ = some (.int .i64 p0) ∧ W.cell? ⟨ga, oa + i * 3 + 1, none⟩ = some (.int .i64 p1) ∧ W.cell? ⟨ga, oa + i * 3 + 2, none⟩ = some (.int .i64 p2) ∧ W.cell? ⟨gb, ob + i * 3, none⟩ = some (.int .i64 q0) ∧ W.cell? ⟨gb, ob + i * 3 + 1, none⟩ = some (.int .i64 q1) ∧ W.cell? ⟨gb, ob + i * 3 + 2, none⟩ = some (.int .i64 q2)) := hd (fun W hb => ⟨x2 W (hbw.out.trans (hb.mono hbw.out.size)) 0 _ rfl, x2 W (hbw.out.trans (hb.mono hbw.out.size)) 1 _ rfl, x2 W (hbw.out.trans (hb.mono hbw.out.size)) 2 _ rfl, y2 W (hbw.out.trans (hb.mono hbw.out.size)) 0 _ rfl, y2 W (hbw.out.trans (hb.mono hbw.out.size)) 1 _ rfl, y2 W (hbw.out.trans (hb.mono hbw.out.size)) 2 _ rfl⟩)
      have hst := hst
      obtain ⟨f0, f1, f2, f3, f4, f5⟩ := HG.out wr (below_same wr)
      clear x2 y2
      (try clear x1)
      (try clear y1)
      go_upto_region 6 with fail
      go_cut [28] (fun v28 wy => v28 = .bool (!r) ∧ Hid (Below w.heap.size w wy))
      case first =>
        go_region_held3 (fun w' => w'.cell? ⟨ga, oa + i * 3, none⟩ = some (.int .i64 p0) ∧ w'.cell? ⟨ga, oa + i * 3 + 1, none⟩ = some (.int .i64 p1) ∧ w'.cell? ⟨ga, oa + i * 3 + 2, none⟩ = some (.int .i64 p2) ∧ w'.cell? ⟨gb, ob + i * 3, none⟩ = some (.int .i64 q0) ∧ w'.cell? ⟨gb, ob + i * 3 + 1, none⟩ = some (.int .i64 q1) ∧ w'.cell? ⟨gb, ob + i * 3 + 2, none⟩ = some (.int .i64 q2)) (go_keep)
          (first
            | (go_at_call 36; (with_reducible refine hst.mono ?_); rintro e w2 ⟨rfl, hb2⟩; have hb2' := hd (bel_dr hb2); obtain ⟨e0, e1, e2, e3, e4, e5⟩ := HG.out w2 hb2'.out))
        all_goals (
          go_wp2_with fail
          go_meet
          case rel => exact ⟨rfl, hd (hbw.out.trans (hb2'.out.mono hbw.out.size))⟩)
      case rest =>
        obtain ⟨rfl, hbc⟩ := hcut
        clear HG f0 f1 f2 f3 f4 f5 hst
        cases r
        · obtain rfl : R = false := HM.out rfl
          go_wp2_with fail
          go_ret
          exact ⟨rfl, hbc.out⟩
        · go_wp2_with fail
          go_roundg (gk - 1)
          case rel => exact ⟨i + 1, by go_num, by omega, hbc, hd (HQ.out (by trivial))⟩
          case measure => omega
    · obtain rfl : i = n := by omega
      obtain rfl : R = true := HY.out HP.out
      clear HP
      go_wp2_with fail
      go_ret
      exact ⟨rfl, hbw.out⟩
end Go.Proofs.Ytjbmljheepomnaa
