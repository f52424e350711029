/- A program's bytes, by the document's answer. -/
import Derived.Test.YtngihjmhedkanabDoorW8
namespace Go.Proofs.YtngihjmhedkanabDoor
open Go.RowKit

theorem take_snoc (l : List Ins) (i : Nat) (h : i < l.length) : l.take (i + 1) = l.take i ++ [l.getD i default] := by
  rw [List.take_add_one, List.getD_eq_getElem?_getD, List.getElem?_eq_getElem h]
  rfl
theorem enc_step (l : List Ins) (i : Nat) (h : i < l.length) : encB (l.take (i + 1)) = encB (l.take i) ++ insB (l.getD i default) := by rw [take_snoc l i h, encB_snoc]

theorem may_len {l : List Ins} (h : (mayL l 8).1 = 0) : l.length ≤ 256 := by
  unfold mayL at h
  rw [if_neg (by omega)] at h
  split at h
  · simp at h
  · omega
theorem may_zero {l : List Ins} {k : Int} (h : (mayL l k).1 = 0) : mayL l k = (0, 0) := by
  have h2 := (mayL_place l k).2.2 h
  exact Prod.ext h h2

theorem owns_mono {w : World} {B B' n s : Nat} {e : TypeId} {v : Value} {xs : List Value} (h : w.ownsRow B e s v n xs) (hB : B' ≤ B) : w.ownsRow B' e s v n xs := by
  obtain ⟨h1, h2⟩ := h
  refine ⟨h1, ?_⟩
  rcases h2 with h2 | ⟨g, cap, cur, h2, h3, h4⟩
  · exact .inl h2
  · exact .inr ⟨g, cap, cur, h2, Nat.le_trans hB h3, h4⟩

set_option maxRecDepth 100000 in
set_option maxHeartbeats 2000000 in
theorem rencode_ok (a : Option Addr) (cap : Nat) (l : List Ins) (w : World) (hP : Prg w a l) (hm : (mayL l 8).1 = 0) :
    Calls Tryd.prog 13 #[.slice a l.length cap] w fun e w' => ∃ g cap', e = .returned (.tuple #[.slice (some ⟨g, 0, none⟩) (12 * l.length) cap', .int .i64 0, .int .i64 0]) ∧ w'.ownsRow w.heap.size 5 1 (.slice (some ⟨g, 0, none⟩) (12 * l.length) cap') (12 * l.length) (bCells (encB l)) ∧ Below w.heap.size w w' := by
  have hlen := may_len hm
  have hmay := rmay_any a cap l 8 w hP
  rw [may_zero hm] at hmay
  have HP : Hid (Prg w a l) := hP
  clear hP hm
  go_enter Tryd.func13, Tryd.ntmps13
  go_wp2_with fail
  refine hmay.mono ?_
  rintro e w1 ⟨rfl, b1⟩
  go_wp2_with fail
  have hs1 := b1.size
  go_loopw [7, 8] (fun v7 v8 wr => ∃ i g cap : Nat, v8 = .int .i64 i ∧ i ≤ l.length ∧ v7 = .slice (some ⟨g, 0, none⟩) (12 * i) cap ∧ wr.ownsRow w.heap.size 5 1 (.slice (some ⟨g, 0, none⟩) (12 * i) cap) (12 * i) (bCells (encB (l.take i))) ∧ Below w.heap.size w wr) (fun _ v8 _ => l.length - (intOf v8).toNat)
  case atStart => exact ⟨0, _, _, rfl, Nat.zero_le _, rfl, owns_mono (own_empty w1 5 1) hs1, b1.alloc hs1 _⟩
  case round =>
    obtain ⟨i, g, cap, rfl, hi, rfl, hown, hbr⟩ := hrel
    by_cases hlt : i < l.length
    · have hlt' : (i : Int) < (l.length : Int) := by omega
      obtain ⟨b, off, rfl, hx⟩ := HP.out i hlt
      have hx := hx.kept hbr
      have hE : Hid (encB (l.take (i + 1)) = _) := hd (enc_step l i hlt)
      have hput := put_any w.heap.size (12 * i) g cap (encB (l.take i)) (l.getD i default) wr hown hbr.size (by omega)
      obtain ⟨k0, k1, k2, k3, k4⟩ := hx
      clear HP hown hmay
      generalize encB (l.take i) = E at *
      generalize l.getD i default = x at *
      unfold insV at hput
      go_wp2_with fail
      refine hput.mono ?_
      rintro e w2 ⟨g2, cap2, rfl, hown2, b2⟩
      rw [← hE.out] at hown2
      have b3 := hbr.trans b2
      clear hput hE k0 k1 k2 k3 k4
      go_wp2_with fail
      go_roundw
      case rel => exact ⟨i + 1, g2, cap2, by go_num, by omega, by rw [Nat.mul_add], by rw [Nat.mul_add]; exact hown2, b3⟩
      case measure => simp [intOf]; omega
    · have ei : i = l.length := by omega
      have hltd : decide ((i : Int) < (l.length : Int)) = false := by simp; omega
      rw [show l.take i = l by rw [ei]; exact List.take_length] at hown
      go_wp2
      go_ret3
      refine ⟨g, cap, ?_, ?_, hbr⟩
      · rw [← ei]; rfl
      · rw [← ei]; exact hown

set_option maxRecDepth 100000 in
theorem rencode_no (a : Option Addr) (cap : Nat) (l : List Ins) (w : World) (hP : Prg w a l) (hm : (mayL l 8).1 ≠ 0) :
    Calls Tryd.prog 13 #[.slice a l.length cap] w fun e w' => e = .returned (.tuple #[.slice none 0 0, .int .i64 (mayL l 8).1, .int .i64 (mayL l 8).2]) ∧ Below w.heap.size w w' := by
  have hmay := rmay_any a cap l 8 w hP
  generalize mayL l 8 = R at *
  obtain ⟨E, A⟩ := R
  simp only at *
  have d1 : (E == 0) = false := by simpa using hm
  clear hP hm
  go_enter Tryd.func13, Tryd.ntmps13
  go_wp2_with fail
  refine hmay.mono ?_
  rintro e w1 ⟨rfl, b1⟩
  go_wp2_with fail
  go_ret3
  exact ⟨rfl, b1⟩

set_option maxRecDepth 100000 in
theorem encode_no (a : Option Addr) (cap : Nat) (l : List Ins) (w : World) (hP : Prg w a l) (hF : Fld w) (hm : (mayL l 8).1 ≠ 0) :
    Calls Tryd.prog 10 #[.slice a l.length cap] w fun e w' => e = .returned (.tuple #[.slice none 0 0, .int .i64 (mayL l 8).1, .int .i64 (mayL l 8).2]) ∧ Below w.heap.size w w' := by
  have hmay := may_any a cap l 8 w hP hF
  generalize mayL l 8 = R at *
  obtain ⟨E, A⟩ := R
  simp only at *
  have d1 : (E == 0) = false := by simpa using hm
  clear hP hm hF
  go_enter Tryd.func10, Tryd.ntmps10
  go_wp2_with fail
  refine hmay.mono ?_
  rintro e w1 ⟨rfl, b1⟩
  go_wp2_with fail
  go_ret3
  exact ⟨rfl, b1⟩
end Go.Proofs.YtngihjmhedkanabDoor
