/- The document's Step, of any core and code, is the program's. -/
import Derived.Test.YtfkdaimhdjaefaaDoorGUg
import Derived.Test.YtfkdaimhdjaefaaDoorGUi
import Derived.Test.YtfkdaimhdjaefaaDoorUB
import Derived.Test.YtfkdaimhdjaefaaDoorUG
namespace Go.Proofs.YtfkdaimhdjaefaaDoor
open Go.RowKit

theorem reckons_any (c : Core) (hc : GoodC c) (op imm tick self : Int) (a b d : Nat) (ha : a < 8) (hb : b < 8) (hd' : d < 8) (n0 : op ≠ 0) (n1 : op < 24 ∨ 31 < op) (o1 : 0 ≤ op) (o2 : op < 34) (w : World) :
    Calls Tryd.prog 22 #[coreV c, insV ⟨op, a, b, d, imm⟩, .int .i64 tick, .int .i64 self] w fun e w' => e = .returned (coreV (doL c op a b d imm tick self)) ∧ Below w.heap.size w w' := by
  have fb := hc b hb
  have fd := hc d hd'
  unfold doL
  by_cases h1 : op = 1
  · rw [if_pos h1]; exact rk_set c op imm tick self a b d ha hb hd' h1 w
  rw [if_neg h1]
  by_cases h2 : op = 2
  · rw [if_pos h2]; exact rk_move c op imm tick self a b d ha hb hd' h2 w
  rw [if_neg h2]
  by_cases h3 : op = 22
  · rw [if_pos h3]; exact rk_jump c op imm tick self a b d ha hb hd' h3 w
  rw [if_neg h3]
  by_cases h4 : op = 23
  · rw [if_pos h4]
    by_cases hr : c.r a = 0
    · rw [if_pos hr]; exact rk_else c op imm tick self a b d ha hb hd' h4 (by simpa using hr) w
    · rw [if_neg hr]; exact rk_if c op imm tick self a b d ha hb hd' h4 (by simpa using hr) w
  rw [if_neg h4]
  by_cases h5 : op = 32
  · rw [if_pos h5]; exact rk_now c op imm tick self a b d ha hb hd' h5 w
  rw [if_neg h5]
  by_cases h6 : op = 33
  · rw [if_pos h6]; exact rk_self c op imm tick self a b d ha hb hd' h6 w
  rw [if_neg h6]
  by_cases h7 : op ≤ 14
  · exact rk_alu c op imm tick self a b d ha hb hd' (by omega) h7 fb fd w
  have h : op = 15 ∨ op = 16 ∨ op = 17 ∨ op = 18 ∨ op = 19 ∨ op = 20 ∨ op = 21 := by omega
  rcases h with rfl | rfl | rfl | rfl | rfl | rfl | rfl
  · exact rk_flt_15 c imm tick self a b d ha hb hd' fb fd w
  · exact rk_flt_16 c imm tick self a b d ha hb hd' fb fd w
  · exact rk_flt_17 c imm tick self a b d ha hb hd' fb fd w
  · exact rk_flt_18 c imm tick self a b d ha hb hd' fb fd w
  · exact rk_flt_19 c imm tick self a b d ha hb hd' fb fd w
  · exact rk_conv_20 c imm tick self a b d ha hb hd' fb fd w
  · exact rk_conv_21 c imm tick self a b d ha hb hd' fb fd w

theorem want_at (c : Core) (op : Int) (a b d : Nat) (imm : Int) (h : ¬ (wantL c op a b d imm).1 = 0) : op = 0 ∨ op = 24 ∨ op = 25 ∨ op = 26 ∨ op = 27 ∨ op = 28 ∨ op = 29 ∨ op = 30 ∨ op = 31 := by
  by_cases h0 : op = 0 ∨ op = 24 ∨ op = 25 ∨ op = 26 ∨ op = 27 ∨ op = 28 ∨ op = 29 ∨ op = 30 ∨ op = 31
  · exact h0
  · refine absurd ?_ h
    unfold wantL
    rw [if_neg (by omega), if_neg (by omega), if_neg (by omega), if_neg (by omega), if_neg (by omega), if_neg (by omega), if_neg (by omega), if_neg (by omega), if_neg (by omega)]

theorem rstep_any (c : Core) (hc : GoodC c) (ad : Option Addr) (l : List Ins) (cap : Nat) (tick self : Int) (w : World) (hP : Prg w ad l) (hF : Fld w) :
    Calls Tryd.prog 8 #[coreV c, .slice ad l.length cap, .int .i64 tick, .int .i64 self] w fun e w' => e = .returned (.tuple #[coreV (stepL c l tick self).1, wantT (stepL c l tick self).2]) ∧ Below w.heap.size w w' := by
  have hb0 := three_bel w (.cells (coreA c) 33) (.cells zeroC 33) (.cells zeroW 34)
  unfold stepL
  by_cases h1 : 0 ≤ c.pc ∧ c.pc < l.length
  · rw [if_pos h1]
    obtain ⟨p, hp⟩ : ∃ p : Nat, c.pc = p := ⟨c.pc.toNat, by omega⟩
    have hlt : p < l.length := by omega
    have ep : c.pc.toNat = p := by omega
    rw [ep]
    have hat := at_yes c ad l cap p hp hlt _ (hP.kept hb0)
    by_cases h2 : (wrong (l.getD p default) l.length 8).1 = 0
    · rw [if_pos h2]
      obtain ⟨hx, ha, hb, hd', ho1, ho2⟩ := ins_form h2
      rw [show ((wrong (l.getD p default) l.length 8).1 == 0) = true from by simpa using h2, hx] at hat
      clear hx
      generalize (l.getD p default).a.toNat = a at *
      generalize (l.getD p default).b.toNat = b at *
      generalize (l.getD p default).c.toNat = d at *
      generalize (l.getD p default).op = op at *
      generalize (l.getD p default).imm = imm at *
      unfold stepI
      by_cases h3 : (wantL c op a b d imm).1 = 0
      · rw [if_pos h3]
        obtain ⟨hw, hn0, hn1⟩ := want_zero h3
        simp only [hw]
        exact ds_reck c ad l.length cap tick self w hF op imm a b d ha hb hd' hat hn0 hn1 _ (fun W => reckons_any c hc op imm tick self a b d ha hb hd' hn0 hn1 ho1 ho2 W)
      · rw [if_neg h3]
        rcases want_at c op a b d imm h3 with rfl | rfl | rfl | rfl | rfl | rfl | rfl | rfl | rfl
        · exact ds_exit c ad l.length cap tick self w hF 0 imm a b d ha hb hd' hat rfl
        · exact ds_send c ad l.length cap tick self w hF 24 imm a b d ha hb hd' hat rfl
        · exact ds_recv c ad l.length cap tick self w hF 25 imm a b d ha hb hd' hat rfl
        · exact ds_try c ad l.length cap tick self w hF 26 imm a b d ha hb hd' hat rfl
        · exact ds_timer c ad l.length cap tick self w hF 27 imm a b d ha hb hd' hat rfl
        · exact ds_sleep c ad l.length cap tick self w hF 28 imm a b d ha hb hd' hat rfl
        · exact ds_lock c ad l.length cap tick self w hF 29 imm a b d ha hb hd' hat rfl
        · exact ds_unlock c ad l.length cap tick self w hF 30 imm a b d ha hb hd' hat rfl
        · exact ds_out c ad l.length cap tick self w hF 31 imm a b d ha hb hd' hat rfl
    · rw [if_neg h2]
      rw [show ((wrong (l.getD p default) l.length 8).1 == 0) = false from by simpa using h2] at hat
      exact ds_bad c ad l.length cap tick self w hF _ hat
  · rw [if_neg h1]
    have hat := at_no c ad l.length cap h1 (((w.alloc (.cells (coreA c) 33)).alloc (.cells zeroC 33)).alloc (.cells zeroW 34))
    exact ds_no c ad l.length cap tick self w hF 0 0 0 0 0 (by omega) (by omega) (by omega) hat
end Go.Proofs.YtfkdaimhdjaefaaDoor
