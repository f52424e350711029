/- label.Print. -/
import Derived.Test.YtjjhfmiegoohlaaDoorW2
import Derived.Laws.IdiomStrings
import Derived.Laws.BytesArg
namespace Go.Proofs.YtjjhfmiegoohlaaDoor
open Go.RowKit

theorem own_string {w : World} {B n : Nat} {v : Value} {l : List UInt8} (hn : n = l.length) (h : w.ownsRow B 5 1 v n (Lib.byteCells l)) :
    (convert 39 9 v).run Tryd.prog w = .ok (.string ⟨l.toArray⟩) w := by
  subst hn
  have hc := h
  rcases h.2 with ⟨rfl, hx⟩ | ⟨g, cap, cur, rfl, _⟩
  · have : l = [] := List.eq_nil_of_length_eq_zero hx
    subst this
    exact run_convert_bytes_nil w 39 5 Tryd.underlying39 Tryd.underlying5 _ _ 9 Tryd.underlying9
  · refine run_convert_bytes_back w 39 9 5 _ cap l Tryd.underlying39 Tryd.underlying5 Tryd.underlying9 ?_
    intro j hj
    refine hc.cells (g := g) rfl j _ ?_
    simp [Lib.byteCells, hj]

theorem own_made (w : World) : (w.alloc (.cells #[.int .u8 123] 5)).ownsRow w.heap.size 5 1 (.slice (some ⟨w.heap.size, 0, none⟩) 1 1) 1 (Lib.byteCells [123]) :=
  ⟨by simp [Lib.byteCells], .inr ⟨w.heap.size, 1, #[.int .u8 123], rfl, Nat.le_refl _, heap_alloc_new w _, by simp, by unfold maxLen; omega, by simp, by simp [Lib.byteCells]⟩⟩

theorem own_form {w : World} {B e z n : Nat} {v : Value} {xs : List Value} (h : w.ownsRow B e z v n xs) (hn : 0 < n) : ∃ g cap, v = .slice (some ⟨g, 0, none⟩) n cap := by
  rcases h.2 with ⟨rfl, hx⟩ | ⟨g, cap, cur, rfl, _⟩
  · omega
  · exact ⟨g, cap, rfl⟩

theorem own_len {w : World} {B e z n m : Nat} {v : Value} {xs : List Value} (hn : n = m) (h : w.ownsRow B e z v n xs) : w.ownsRow B e z v m xs := hn ▸ h
theorem bytes_snoc (l m : List UInt8) : Lib.byteCells l ++ Lib.byteCells m = Lib.byteCells (l ++ m) := by simp [Lib.byteCells]

set_option maxRecDepth 100000 in
set_option maxHeartbeats 1000000 in
theorem print_any (a : Nat) (ha : a < 18446744073709551616) (w : World) :
    Calls Tryd.prog 19 #[.int .u64 a] w fun e w' => e = .returned (.string ⟨(printL a).toArray⟩) ∧ Below w.heap.size w w' := by
  obtain ⟨i0, hi, hz0, hz1, hz2⟩ := info_parts info5
  go_enter Tryd.func19, Tryd.ntmps19
  go_wp2
  go_loopw [3, 6] (fun v i wr => ∃ k : Nat, k ≤ 64 ∧ i = .int .i64 k ∧ wr.ownsRow w.heap.size 5 1 v (txt a k).length (Lib.byteCells (txt a k)) ∧ Below w.heap.size w wr) (fun _ i _ => 64 - (intOf i).toNat)
  case atStart => exact ⟨0, Nat.zero_le _, rfl, own_made w, (Below.refl _ _).alloc (Nat.le_refl _) _⟩
  case round =>
    obtain ⟨k, hk, rfl, hown, hb⟩ := hrel
    have hl := txt_len a k
    have hB := hb.size
    by_cases hlt : k < 64
    · have hh : hasI a (k : Int) = a.testBit k := by
        unfold hasI
        rw [decide_eq_true (show (0 : Int) ≤ k by omega), decide_eq_true (show (k : Int) < 64 by omega), Int.toNat_natCast]; rfl
      by_cases ht : a.testBit k = true
      · have ht' : hasI a (k : Int) = true := by rw [hh]; exact ht
        by_cases h1 : 1 < (txt a k).length
        · have e1 : txt a (k + 1) = (txt a k ++ [44]) ++ dec k := by simp [txt, ht, h1]
          have E1 : Hid _ := e1
          have h1' : (1 : Int) < ((txt a k).length : Int) := by omega
          clear e1 hh
          obtain ⟨g, cap, rfl⟩ := own_form hown (by omega)
          go_wp2_with (first | (go_at_call 15; refine (has_any a k ha _).mono ?_; rintro e w' ⟨rfl, rfl⟩) | (at_builtin; refine wpList_append_own _ rfl (.tmp 16) (.tmp 17) 39 rfl w.heap.size 5 i0 (.int .u8 0) 1 1 Tryd.underlying39 hi hz0 hz1 hz2 rfl (by decide) _ _ _ rfl (hown.alloc _) ⟨_, 0, none⟩ 1 1 [.int .u8 44] rfl rfl (cell_one_new _ _ _) (by simp [Value.oneCell']) (by unfold maxLen; omega) (by omega) (by simp; omega) ?_; intro v1 w1 hown1 hgrow1 hx1))
          have hb1 : Below w.heap.size w w1 := (hb.alloc hB _).grown hgrow1 (by simp; omega) (fun j hj => (hown.lt j hj).1)
          have hB1 := hb1.size
          rw [show [Value.int .u8 44] = Lib.byteCells [44] from rfl, bytes_snoc] at hown1
          clear hgrow1 hx1 hown hb hB
          refine (appendInt_any w.heap.size _ k (by omega) v1 _ w1 hown1 hB1 (by omega)).mono ?_
          rintro e w2 ⟨v2, rfl, hown2, hb2⟩
          rw [bytes_snoc] at hown2
          have hb3 := hb1.trans hb2
          clear hown1 hb1 hb2
          go_wp2
          go_roundw
          case rel => exact ⟨k + 1, by omega, by go_num, by rw [E1.out]; exact own_len (by simp only [List.length_append, List.length_cons, List.length_nil]) hown2, hb3⟩
          case measure => simp [intOf]; omega
        · have e1 : txt a (k + 1) = txt a k ++ dec k := by simp [txt, ht, h1]
          have E1 : Hid _ := e1
          have h1' : decide ((1 : Int) < ((txt a k).length : Int)) = false := by simp; omega
          clear e1 hh
          obtain ⟨g, cap, rfl⟩ := own_form hown (by omega)
          go_wp2_with (first | (go_at_call 15; refine (has_any a k ha _).mono ?_; rintro e w' ⟨rfl, rfl⟩) | (go_at_call 26; refine (appendInt_any w.heap.size _ k (by omega) _ _ _ hown hB (by omega)).mono ?_; rintro e w2 ⟨v2, rfl, hown2, hb2⟩))
          rw [bytes_snoc] at hown2
          have hb3 := hb.trans hb2
          clear hown hb hb2
          go_roundw
          case rel => exact ⟨k + 1, by omega, by go_num, by rw [E1.out]; exact own_len (by simp only [List.length_append]) hown2, hb3⟩
          case measure => simp [intOf]; omega
      · have e1 : txt a (k + 1) = txt a k := by simp [txt, ht]
        have ht' : hasI a (k : Int) = false := by rw [hh]; simpa using ht
        have E1 : Hid _ := e1
        clear e1 hh
        go_wp2_with (go_at_call 15; refine (has_any a k ha _).mono ?_; rintro e w' ⟨rfl, rfl⟩)
        go_roundw
        case rel => exact ⟨k + 1, by omega, by go_num, by rw [E1.out]; exact hown, hb⟩
        case measure => simp [intOf]; omega
    · have : k = 64 := by omega
      subst this
      obtain ⟨g, cap, rfl⟩ := own_form hown (by omega)
      go_wp2_with (at_builtin; refine wpList_append_own _ rfl (.tmp 23) (.tmp 24) 39 rfl w.heap.size 5 i0 (.int .u8 0) 1 1 Tryd.underlying39 hi hz0 hz1 hz2 rfl (by decide) _ _ _ rfl (hown.alloc _) ⟨_, 0, none⟩ 1 1 [.int .u8 125] rfl rfl (cell_one_new _ _ _) (by simp [Value.oneCell']) (by unfold maxLen; omega) (by omega) (by simp; omega) ?_; intro v1 w1 hown1 hgrow1 hx1)
      have hb1 : Below w.heap.size w w1 := (hb.alloc hB _).grown hgrow1 (by simp; omega) (fun j hj => (hown.lt j hj).1)
      rw [show [Value.int .u8 125] = Lib.byteCells [125] from rfl, bytes_snoc] at hown1
      have hc := own_string (by simp) hown1
      clear hgrow1 hx1 hown hb hB hown1
      rw [hc]
      go_wp2
      go_ret
      exact ⟨rfl, hb1⟩
end Go.Proofs.YtjjhfmiegoohlaaDoor
