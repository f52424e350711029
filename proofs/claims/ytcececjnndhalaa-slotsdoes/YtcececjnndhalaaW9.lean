/- New, and the document's own New: what they answer. -/
import Derived.Test.YtcececjnndhalaaW8
namespace Go.Proofs.Ytcececjnndhalaa
open Go.RowKit

set_option maxRecDepth 100000 in
set_option maxHeartbeats 1000000 in
theorem new_no (a : Option Addr) (cap : Nat) (l : List Int) (P : Int) (w : World) (hC : Cells w a (iCells l)) (er at0 : Nat) (h : NewNo l P er at0) :
    Calls Try.prog 18 #[.slice a l.length cap, .int .i64 P] w fun e w' => e = .returned (.tuple #[.pointer none, .int .i64 er, .int .i64 at0]) ∧ w' = w := by
  rcases h with ⟨h, rfl, rfl⟩ | ⟨⟨h1, h2, h3⟩, rfl, rfl⟩ | ⟨⟨h1, h2, h0, h3, h4, h5, h6⟩, rfl⟩
  · by_cases h1 : P < 1
    · clear h hC
      generalize l.length = len at *
      go_enter Try.func18, Try.ntmps18
      go_wp2
      go_ret3
      exact ⟨rfl, rfl⟩
    · by_cases h2 : 8 < P
      · have h1d : decide (P < 1) = false := by simp; omega
        have h1' : 1 ≤ P := by omega
        clear h hC h1
        generalize l.length = len at *
        go_enter Try.func18, Try.ntmps18
        go_wp2
        go_ret3
        exact ⟨rfl, rfl⟩
      · have h1d : decide (P < 1) = false := by simp; omega
        have h1' : 1 ≤ P := by omega
        have h2d : decide (8 < P) = false := by simp; omega
        have h2' : P ≤ 8 := by omega
        have h3' : ((l.length : Int) == 0) = true := by rw [beq_iff_eq]; omega
        clear h hC h1 h2
        generalize l.length = len at *
        go_enter Try.func18, Try.ntmps18
        go_wp2
        go_ret3
        exact ⟨rfl, rfl⟩
  · have h1d : decide (P < 1) = false := by simp; omega
    have h2d : decide (8 < P) = false := by simp; omega
    have h3d : ((l.length : Int) == 0) = false := by rw [beq_eq_false_iff_ne]; omega
    have h3' : (64 : Int) < (l.length : Int) := by omega
    clear hC h3
    generalize l.length = len at *
    go_enter Try.func18, Try.ntmps18
    go_wp2
    go_ret3
    exact ⟨rfl, rfl⟩
  · have h1d : decide (P < 1) = false := by simp; omega
    have h2d : decide (8 < P) = false := by simp; omega
    have h3d : ((l.length : Int) == 0) = false := by rw [beq_eq_false_iff_ne]; omega
    have h3' : (l.length : Int) ≤ 64 := by omega
    have h4d : decide ((64 : Int) < (l.length : Int)) = false := by simp; omega
    obtain ⟨b, off, rfl, hc⟩ := hC (iCells_ne l 0 h0)
    have h5 : Hid (∀ i, i < at0 → okEnt P (l.getD i 0)) := h5
    have h6 : Hid (¬ okEnt P (l.getD at0 0)) := h6
    clear hC
    go_enter Try.func18, Try.ntmps18
    go_wp2
    go_loop [25] (fun i => ∃ k : Nat, k ≤ at0 ∧ i = .int .i64 k) (fun i => at0 + 1 - (intOf i).toNat)
    case atStart => exact ⟨0, Nat.zero_le _, rfl⟩
    case round =>
      obtain ⟨k, hk, rfl⟩ := hrel
      have hx := hc k _ (iCells_at l k (by omega))
      have hlt : (k : Int) < (l.length : Int) := by omega
      by_cases e : k = at0
      · have hb : Hid (¬ okEnt P (l.getD k 0)) := by rw [e]; exact h6
        have E : Hid (k = at0) := e
        clear e h6
        generalize l.getD k 0 = x at *
        by_cases hn : x < 0
        · clear hb
          go_wp2
          go_ret3
          exact ⟨by rw [← E.out]; rfl, rfl⟩
        · have hnd : decide (x < 0) = false := by simp; omega
          have hn' : 0 ≤ x := by omega
          have hge : P ≤ x := by
            have := hb.out
            unfold okEnt at this
            omega
          clear hb hn
          go_wp2
          go_ret3
          exact ⟨by rw [← E.out]; rfl, rfl⟩
      · have hb : Hid (okEnt P (l.getD k 0)) := h5.out k (by omega)
        generalize l.getD k 0 = x at *
        have hok := hb.out
        unfold okEnt at hok
        obtain ⟨o1, o2⟩ := hok
        have hnd : decide (x < 0) = false := by simp; omega
        have hgd : decide (P ≤ x) = false := by simp; omega
        clear hb
        go_wp2
        go_round
        case rel => exact ⟨k + 1, by omega, by go_num⟩
        case measure => simp [intOf]; omega

set_option maxRecDepth 100000 in
set_option maxHeartbeats 1000000 in
theorem rnew_no (a : Option Addr) (cap : Nat) (l : List Int) (P : Int) (w : World) (hC : Cells w a (iCells l)) (er at0 : Nat) (h : NewNo l P er at0) :
    Calls Try.prog 19 #[.slice a l.length cap, .int .i64 P] w fun e w' => e = .returned (.tuple #[.pointer none, .int .i64 er, .int .i64 at0]) ∧ w' = w := by
  rcases h with ⟨h, rfl, rfl⟩ | ⟨⟨h1, h2, h3⟩, rfl, rfl⟩ | ⟨⟨h1, h2, h0, h3, h4, h5, h6⟩, rfl⟩
  · by_cases h1 : P < 1
    · clear h hC
      generalize l.length = len at *
      go_enter Try.func19, Try.ntmps19
      go_wp2
      go_ret3
      exact ⟨rfl, rfl⟩
    · by_cases h2 : 8 < P
      · have h1d : decide (P < 1) = false := by simp; omega
        have h1' : 1 ≤ P := by omega
        clear h hC h1
        generalize l.length = len at *
        go_enter Try.func19, Try.ntmps19
        go_wp2
        go_ret3
        exact ⟨rfl, rfl⟩
      · have h1d : decide (P < 1) = false := by simp; omega
        have h1' : 1 ≤ P := by omega
        have h2d : decide (8 < P) = false := by simp; omega
        have h2' : P ≤ 8 := by omega
        have h3' : ((l.length : Int) == 0) = true := by rw [beq_iff_eq]; omega
        clear h hC h1 h2
        generalize l.length = len at *
        go_enter Try.func19, Try.ntmps19
        go_wp2
        go_ret3
        exact ⟨rfl, rfl⟩
  · have h1d : decide (P < 1) = false := by simp; omega
    have h2d : decide (8 < P) = false := by simp; omega
    have h3d : ((l.length : Int) == 0) = false := by rw [beq_eq_false_iff_ne]; omega
    have h3' : (64 : Int) < (l.length : Int) := by omega
    clear hC h3
    generalize l.length = len at *
    go_enter Try.func19, Try.ntmps19
    go_wp2
    go_ret3
    exact ⟨rfl, rfl⟩
  · have h1d : decide (P < 1) = false := by simp; omega
    have h2d : decide (8 < P) = false := by simp; omega
    have h3d : ((l.length : Int) == 0) = false := by rw [beq_eq_false_iff_ne]; omega
    have h3' : (l.length : Int) ≤ 64 := by omega
    have h4d : decide ((64 : Int) < (l.length : Int)) = false := by simp; omega
    obtain ⟨b, off, rfl, hc⟩ := hC (iCells_ne l 0 h0)
    have h5 : Hid (∀ i, i < at0 → okEnt P (l.getD i 0)) := h5
    have h6 : Hid (¬ okEnt P (l.getD at0 0)) := h6
    clear hC
    go_enter Try.func19, Try.ntmps19
    go_wp2
    go_loop [7] (fun i => ∃ k : Nat, k ≤ at0 ∧ i = .int .i64 k) (fun i => at0 + 1 - (intOf i).toNat)
    case atStart => exact ⟨0, Nat.zero_le _, rfl⟩
    case round =>
      obtain ⟨k, hk, rfl⟩ := hrel
      have hx := hc k _ (iCells_at l k (by omega))
      have hlt : (k : Int) < (l.length : Int) := by omega
      by_cases e : k = at0
      · have hb : Hid (¬ okEnt P (l.getD k 0)) := by rw [e]; exact h6
        have E : Hid (k = at0) := e
        clear e h6
        generalize l.getD k 0 = x at *
        by_cases hn : x < 0
        · clear hb
          go_wp2
          go_ret3
          exact ⟨by rw [← E.out]; rfl, rfl⟩
        · have hnd : decide (x < 0) = false := by simp; omega
          have hn' : 0 ≤ x := by omega
          have hge : P ≤ x := by
            have := hb.out
            unfold okEnt at this
            omega
          clear hb hn
          go_wp2
          go_ret3
          exact ⟨by rw [← E.out]; rfl, rfl⟩
      · have hb : Hid (okEnt P (l.getD k 0)) := h5.out k (by omega)
        generalize l.getD k 0 = x at *
        have hok := hb.out
        unfold okEnt at hok
        obtain ⟨o1, o2⟩ := hok
        have hnd : decide (x < 0) = false := by simp; omega
        have hgd : decide (P ≤ x) = false := by simp; omega
        clear hb
        go_wp2
        go_round
        case rel => exact ⟨k + 1, by omega, by go_num⟩
        case measure => simp [intOf]; omega

set_option maxRecDepth 100000 in
set_option maxHeartbeats 1000000 in
theorem new_yes (a : Option Addr) (cap : Nat) (l : List Int) (P : Int) (w : World) (hC : Cells w a (iCells l)) (h : NewOk l P) :
    Calls Try.prog 18 #[.slice a l.length cap, .int .i64 P] w fun e w' => ∃ sb lb cp, e = .returned (.tuple #[.pointer (some ⟨sb, 0, none⟩), .int .i64 0, .int .i64 0]) ∧ Sl w' sb lb cp l ∧ Below w.heap.size w w' ∧ w.heap.size ≤ sb ∧ w.heap.size ≤ lb := by
  have h1 := h.lo
  have h2 := h.hi
  have h0 := h.pos
  have h3 := h.len
  have h1d : decide (P < 1) = false := by simp; omega
  have h2d : decide (8 < P) = false := by simp; omega
  have h3d : ((l.length : Int) == 0) = false := by rw [beq_eq_false_iff_ne]; omega
  have h3' : (l.length : Int) ≤ 64 := by omega
  have h4d : decide ((64 : Int) < (l.length : Int)) = false := by simp; omega
  have h5 : Hid (∀ i, i < l.length → okEnt P (l.getD i 0)) := h.ent
  have hcl := clone_any a cap l w hC (by omega)
  obtain ⟨b, off, rfl, hc⟩ := hC (iCells_ne l 0 h0)
  go_enter Try.func18, Try.ntmps18
  go_wp2
  go_loop [25] (fun i => ∃ k : Nat, k ≤ l.length ∧ i = .int .i64 k) (fun i => l.length - (intOf i).toNat)
  case atStart => exact ⟨0, Nat.zero_le _, rfl⟩
  case round =>
    obtain ⟨k, hk, rfl⟩ := hrel
    by_cases hlt : k < l.length
    · have hx := hc k _ (iCells_at l k (by omega))
      have hlt' : (k : Int) < (l.length : Int) := by omega
      have hb : Hid (okEnt P (l.getD k 0)) := h5.out k (by omega)
      generalize l.getD k 0 = x at *
      have hok := hb.out
      unfold okEnt at hok
      obtain ⟨o1, o2⟩ := hok
      have hnd : decide (x < 0) = false := by simp; omega
      have hgd : decide (P ≤ x) = false := by simp; omega
      clear hb
      go_wp2
      go_round
      case rel => exact ⟨k + 1, by omega, by go_num⟩
      case measure => simp [intOf]; omega
    · have ek : k = l.length := by omega
      subst ek
      go_wp2_with fail
      refine hcl.mono ?_
      rintro e w1 ⟨v, rfl, ho, hb1⟩
      obtain ⟨g, cp, rfl, hg, hcp, hent⟩ := owns_shape ho rfl h0
      go_wp2
      go_ret3
      exact ⟨_, _, _, rfl, sl_made h hcp hent, hb1.alloc hb1.size _, hb1.size, hg⟩

set_option maxRecDepth 100000 in
set_option maxHeartbeats 1000000 in
theorem rnew_yes (a : Option Addr) (cap : Nat) (l : List Int) (P : Int) (w : World) (hC : Cells w a (iCells l)) (h : NewOk l P) :
    Calls Try.prog 19 #[.slice a l.length cap, .int .i64 P] w fun e w' => ∃ sb lb cp, e = .returned (.tuple #[.pointer (some ⟨sb, 0, none⟩), .int .i64 0, .int .i64 0]) ∧ Sl w' sb lb cp l ∧ Below w.heap.size w w' ∧ w.heap.size ≤ sb ∧ w.heap.size ≤ lb := by
  have h1 := h.lo
  have h2 := h.hi
  have h0 := h.pos
  have h3 := h.len
  have h1d : decide (P < 1) = false := by simp; omega
  have h2d : decide (8 < P) = false := by simp; omega
  have h3d : ((l.length : Int) == 0) = false := by rw [beq_eq_false_iff_ne]; omega
  have h3' : (l.length : Int) ≤ 64 := by omega
  have h4d : decide ((64 : Int) < (l.length : Int)) = false := by simp; omega
  have h5 : Hid (∀ i, i < l.length → okEnt P (l.getD i 0)) := h.ent
  obtain ⟨i0, hi, hz0, hz1, hz2⟩ := info_parts info3
  have hll : Hid ((iCells l).length = l.length) := iCells_len l
  have hC0 : Hid (Cells w a (iCells l)) := hC
  obtain ⟨b, off, rfl, hc⟩ := hC (iCells_ne l 0 h0)
  go_enter Try.func19, Try.ntmps19
  go_wp2
  go_loop [7] (fun i => ∃ k : Nat, k ≤ l.length ∧ i = .int .i64 k) (fun i => l.length - (intOf i).toNat)
  case atStart => exact ⟨0, Nat.zero_le _, rfl⟩
  case round =>
    obtain ⟨k, hk, rfl⟩ := hrel
    by_cases hlt : k < l.length
    · have hx := hc k _ (iCells_at l k (by omega))
      have hlt' : (k : Int) < (l.length : Int) := by omega
      have hb : Hid (okEnt P (l.getD k 0)) := h5.out k (by omega)
      generalize l.getD k 0 = x at *
      have hok := hb.out
      unfold okEnt at hok
      obtain ⟨o1, o2⟩ := hok
      have hnd : decide (x < 0) = false := by simp; omega
      have hgd : decide (P ≤ x) = false := by simp; omega
      clear hb
      go_wp2
      go_round
      case rel => exact ⟨k + 1, by omega, by go_num⟩
      case measure => simp [intOf]; omega
    · have ek : k = l.length := by omega
      subst ek
      go_wp2_with (first | (at_builtin; refine wpList_append_own _ rfl _ _ 22 rfl w.heap.size 3 i0 (.int .i64 0) 1 8 Try.underlying22 hi hz0 hz1 hz2 rfl (by decide) _ _ _ rfl (World.ownsRow_made w #[] 0 (Nat.le_refl _) (Nat.zero_le _) (by simp)) ⟨b, off, none⟩ l.length cap (iCells l) rfl (by rw [hll.out, Nat.mul_one]) (cells_src hC0.out ((Below.refl _ w).alloc (Nat.le_refl _) _)) (iCells_one l) (by unfold maxLen; omega) (by have := hll.out; omega) (by simp) ?_; intro v' w1 hown hgrow hnil; obtain ⟨g, cp, rfl, hg, hcp, hent⟩ := owns_shape (n := l.length) (l := l) (by simpa using hown) rfl h0) | go_in)
      go_ret3
      have hb1 : Below w.heap.size w w1 := ((Below.refl _ w).alloc (Nat.le_refl _) _).grown hgrow (by simp) (fun k hk => by cases hk; exact Nat.le_refl _)
      exact ⟨_, rfl, _, ⟨_, sl_made h hcp hent⟩, hb1.alloc hb1.size _, hb1.size, hg⟩

end Go.Proofs.Ytcececjnndhalaa
