/- The document's Same; bytes as strings. -/
import Derived.Test.YtnkanaccacephaaSD4
import Derived.Laws.IdiomStrings
import Derived.Laws.BytesArg
namespace Go.Proofs.Ytnkanaccacephaa
open Go.RowKit

theorem row_zero {w : World} {e s : Nat} {a : Option Addr} {n cap : Nat} {xs : List Value} (h : Row w e s a n cap xs) : a = none → cap = 0 := fun h0 => by
  rcases h.2.2.2 with ⟨_, h1⟩ | ⟨g, cur, e, _⟩
  · exact h1
  · cases h0.symm.trans e
def toU (bs : List Nat) : List UInt8 := bs.map UInt8.ofNat
theorem string_rd {a : Option Addr} {cap : Nat} {bs : List Nat} {w : World} (hB : Rd w a (bCells bs)) (hb : Byte bs) (hn : a = none → cap = 0) :
    (convert 27 9 (.slice a bs.length cap)).run Try.prog w = .ok (.string ⟨(toU bs).toArray⟩) w := by
  cases a with
  | none =>
    have h0 : bs = [] := by
      cases bs with
      | nil => rfl
      | cons x r =>
        obtain ⟨b, o, e, _⟩ := hB 0 _ rfl
        cases e
    subst h0
    rw [hn rfl]
    exact run_convert_bytes_nil w 27 5 Try.underlying27 Try.underlying5 _ _ 9 Try.underlying9
  | some ad =>
    have hl : bs.length = (toU bs).length := by simp [toU]
    rw [hl]
    refine run_convert_bytes_back w 27 9 5 _ cap (toU bs) Try.underlying27 Try.underlying5 Try.underlying9 ?_
    intro j hj
    have hj' : j < bs.length := by omega
    obtain ⟨b, off, e, hc⟩ := hB j (.int .u8 (bs.getD j 0)) (by simp [bCells, List.getD_eq_getElem?_getD, hj'])
    cases e
    rw [addr_add, hc]
    have h9 := hb j
    rw [List.getD_eq_getElem?_getD, List.getElem?_eq_getElem hj'] at h9 ⊢
    simp [toU] at h9 ⊢
    omega

theorem drewN_add (w : World) (a b : Nat) : (w.drewN a).drewN b = w.drewN (a + b) := by simp [World.drewN, Nat.add_assoc]

set_option maxRecDepth 100000 in
set_option maxHeartbeats 2000000 in
theorem same_yes (a b : Option Addr) (c1 c2 : Nat) (l : List Stp) (w : World) (hlen : l.length ≤ 9223372036854775807) (hA : Rd w a (sCells l)) (hB : Rd w b (sCells l)) :
    Calls Try.prog 15 #[.slice a l.length c1, .slice b l.length c2] w fun e w' => e = .returned (.bool true) ∧ ∃ n, w' = w.drewN n := by
  have HA := hd hA
  have HB := hd hB
  clear hA hB
  go_enter Try.func15, Try.ntmps15
  go_wp2_with fail
  go_loopg [5, 11, 12, 13, 14, 15, 16, 17, 18, 19, 20, 21, 22, 23, 24, 25] l.length (fun g v5 v11 v12 v13 v14 v15 v16 v17 v18 v19 v20 v21 v22 v23 v24 v25 wr => ∃ i : Nat, i + g = l.length ∧ v5 = .int .i64 (i : Int) ∧ Hid (∃ n, wr = w.drewN n))
  case atStart => exact ⟨0, by omega, by go_num, hd ⟨0, rfl⟩⟩
  case round =>
    obtain ⟨i, hi, rfl, hw⟩ := hrel
    obtain ⟨n, hn⟩ := hw.out
    have hbw : Below w.heap.size w wr := by rw [hn]; exact below_draw w n
    replace hn := hd hn
    by_cases hlt : i < l.length
    · have hlt' : (i : Int) < (l.length : Int) := by omega
      obtain ⟨ba, oa, rfl, x0, x1, x2⟩ := step_at (HA.out.below hbw) i hlt
      obtain ⟨bb, ob, rfl, y0, y1, y2⟩ := step_at (HB.out.below hbw) i hlt
      generalize (l.getD i default).k = x at *
      generalize (l.getD i default).n = y at *
      generalize (l.getD i default).v = z at *
      clear HA HB hbw hw
      go_wp2_with fail
      go_quiet (fail)
      go_wp2_with fail
      go_roundg (gk - 1)
      case rel => exact ⟨i + 1, by omega, by go_num, hd ⟨n + nq, by rw [hn.out, drewN_add]⟩⟩
      case measure => omega
    · have hltd : decide ((i : Int) < (l.length : Int)) = false := by simp; omega
      have hge : (l.length : Int) ≤ (i : Int) := by omega
      go_wp2_with fail
      go_ret
      exact ⟨rfl, n, hn.out⟩
end Go.Proofs.Ytnkanaccacephaa
