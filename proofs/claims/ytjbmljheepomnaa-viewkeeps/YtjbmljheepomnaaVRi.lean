/- The document: two lists of whole numbers. -/
import Derived.Test.YtjbmljheepomnaaVS0
namespace Go.Proofs.Ytjbmljheepomnaa
open Go.RowKit

theorem lst_yes {α : Type} [Inhabited α] {xs ys : List α} {r : Bool} (hl : xs.length = ys.length) (hr : dec (xs = ys) = r) : (∀ j, j < xs.length → xs.getD j default = ys.getD j default) → r = true := fun h => by
  rw [← hr]
  exact dec_yes (List.ext_getElem hl (fun j h1 h2 => by have := h j h1; simpa [List.getD_eq_getElem?_getD, h1, h2] using this))
theorem lst_no {α : Type} [Inhabited α] {xs ys : List α} {r : Bool} {n : Nat} (hr : dec (xs = ys) = r) : ∀ j, j < n → xs.getD j default ≠ ys.getD j default → r = false := fun j _ h => by
  rw [← hr]
  exact dec_no (fun e => h (by rw [e]))
set_option maxRecDepth 100000 in
set_option maxHeartbeats 2000000 in
theorem rints_any {w : World} {va vb : Value} {xs ys : List Int} (hA : DeR 1 iE w va xs) (hB : DeR 1 iE w vb ys) : Calls Try.prog 25 #[va, vb] w fun e w' => e = .returned (.bool (dec (xs = ys))) ∧ Below w.heap.size w w' := by
  obtain ⟨a, c, rfl, hla, hA⟩ := hA.at' (by decide)
  obtain ⟨b, d, rfl, hlb, hB⟩ := hB.at' (by decide)
  by_cases hne : xs.length = ys.length
  case neg =>
    have e1 : dec (xs = ys) = false := dec_no (fun h => hne (by rw [h]))
    rw [e1]
    clear hA hB e1
    generalize xs.length = n at *
    generalize ys.length = k at *
    have hne' : ((n : Int) == (k : Int)) = false := by simp; omega
    go_enter Try.func25, Try.ntmps25
    go_wp2_with fail
    go_ret
    exact ⟨rfl, Below.refl _ _⟩
  have HA := hd hA
  have HB := hd hB
  obtain ⟨R, hR⟩ : ∃ R, Hid (R = (dec (xs = ys) && true)) := ⟨_, rfl⟩
  obtain ⟨rl, hrl⟩ : ∃ r, Hid (dec (xs = ys) = r) := ⟨_, rfl⟩
  have HY := hd (lst_yes hne hrl.out)
  have HN := hd (lst_no (n := xs.length) hrl.out)
  rw [hrl.out, show rl = R by rw [hR.out, hrl.out]; simp, ← hne]
  rw [hrl.out] at hR
  rw [← hne] at HB
  unfold BIG at hla
  clear hA hB hlb hne hrl
  obtain ⟨n, hn⟩ : ∃ n, Hid (xs.length = n) := ⟨_, rfl⟩
  rw [hn.out] at hla HA HB HY HN ⊢
  clear hn
  have HC : Hid (∀ V, Below w.heap.size w V → Below w.heap.size w V) := hd fun _ h => h
  go_enter Try.func25, Try.ntmps25
  go_wp2_with fail
  go_loopg [5] n (fun k v5 wr => ∃ (i : Nat), v5 = .int .i64 (i : Int) ∧ i + k = n ∧ Hid (Below w.heap.size w wr) ∧ Hid (∀ j, j < i → xs.getD j default = ys.getD j default))
  case atStart => exact ⟨0, rfl, by omega, hd (Below.refl _ _), hd (fun j hj => absurd hj (Nat.not_lt_zero j))⟩
  case round =>
    obtain ⟨i, rfl, hik, hbw, HP⟩ := hrel
    have hw := hd (HC.out wr hbw.out)
    by_cases hlt : i < n
    · have hlt' : (i : Int) < (n : Int) := by omega
      obtain ⟨ga, oa, csp, ea, -, x1, x2⟩ := HA.out i hlt
      obtain ⟨gb, ob, csq, eb, -, y1, y2⟩ := HB.out i hlt
      subst ea eb
      obtain ⟨r, hr⟩ : ∃ r, Hid (dec (xs.getD i default = ys.getD i default) = r) := ⟨_, rfl⟩
      have HQ : Hid (r = true → ∀ j, j < i + 1 → xs.getD j default = ys.getD j default) := hd (fun h j hj => by
        rcases Nat.lt_succ_iff_lt_or_eq.1 hj with h1 | h1
        · exact HP.out j h1
        · subst h1
          rw [← hr.out] at h
          by_cases hh : xs.getD j default = ys.getD j default
          · exact hh
          · rw [dec_no hh] at h; cases h)
      have HM : Hid (r = false → R = false) := hd (fun h => by
        have h0 := HN.out i hlt (fun e => by rw [← hr.out, dec_yes e] at h; cases h)
        rw [hR.out, h0]
        all_goals simp)
      clear HP
      generalize xs.getD i default = x at *
      generalize ys.getD i default = y at *
      obtain rfl : csp = [.int .i64 x] := x1
      obtain rfl : csq = [.int .i64 y] := y1
      have HG : Hid (∀ W, Below wr.heap.size wr W → W.cell? ⟨ga, oa + i, none⟩ = some (.int .i64 x) ∧ W.cell? ⟨gb, ob + i, none⟩ = some (.int .i64 y)) := hd (fun W hb => ⟨(by have := x2 W (hw.out.trans (hb.mono hw.out.size)) 0 _ rfl; simpa using this), (by have := y2 W (hw.out.trans (hb.mono hw.out.size)) 0 _ rfl; simpa using this)⟩)
      obtain ⟨f0, f1⟩ := HG.out wr (below_same wr)
      clear x2 y2
      (try clear x1)
      (try clear y1)
      go_upto_region 6 with fail
      go_cut [25] (fun v25 wy => v25 = .bool (!r) ∧ Hid (Below w.heap.size w wy))
      case first =>
        rw [← beq_dec] at hr
        clear HQ HM
        go_region_held3 (fun w' => w'.cell? ⟨ga, oa + i, none⟩ = some (.int .i64 x) ∧ w'.cell? ⟨gb, ob + i, none⟩ = some (.int .i64 y)) (go_keep) (fail)
        all_goals (
          go_wp2_with fail
          go_meet
          case rel => exact ⟨by rw [← hr.out]; simp [bne], hd (hbw.out.trans ((bel_drew wr).mono hbw.out.size))⟩)
      case rest =>
        obtain ⟨rfl, hbc⟩ := hcut
        clear HG hw
        clear f0 f1
        cases r
        · obtain rfl : R = false := HM.out rfl
          go_wp2_with fail
          go_ret
          exact ⟨rfl, HC.out _ hbc.out⟩
        · go_wp2_with fail
          go_roundg (gk - 1)
          case rel => exact ⟨i + 1, by go_num, by omega, hbc, hd (HQ.out (by trivial))⟩
          case measure => omega
    · obtain rfl : i = n := by omega
      have hrl := HY.out HP.out
      rw [hrl] at hR
      simp only [Bool.and_true] at hR
      clear HP hrl hlt hik
      go_wp2_with fail
      go_ret
      exact ⟨ret_bool (by rw [hR.out]), HC.out _ hbw.out⟩
end Go.Proofs.Ytjbmljheepomnaa
