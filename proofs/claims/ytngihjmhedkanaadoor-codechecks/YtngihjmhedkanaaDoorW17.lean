/- Bytes as a string; CodeNames, CodeReads. -/
import Derived.Test.YtngihjmhedkanaaDoorW16
namespace Go.Proofs.YtngihjmhedkanaaDoor
open Go.RowKit

def toU (bs : List Nat) : List UInt8 := bs.map UInt8.ofNat

theorem string_any {a : Option Addr} {cap : Nat} {bs : List Nat} {w : World} (hB : Byt w a bs) (hb : ∀ i, bs.getD i 0 < 256) (hn : a = none → cap = 0) :
    (convert 35 9 (.slice a bs.length cap)).run Tryd.prog w = .ok (.string ⟨(toU bs).toArray⟩) w := by
  cases a with
  | none =>
    have h0 : bs = [] := by
      rcases Nat.eq_zero_or_pos bs.length with h | h
      · exact List.eq_nil_of_length_eq_zero h
      · obtain ⟨b, off, e⟩ := hB.form h
        cases e
    subst h0
    rw [hn rfl]
    exact run_convert_bytes_nil w 35 5 Tryd.underlying35 Tryd.underlying5 _ _ 9 Tryd.underlying9
  | some ad =>
    have hl : bs.length = (toU bs).length := by simp [toU]
    rw [hl]
    refine run_convert_bytes_back w 35 9 5 _ cap (toU bs) Tryd.underlying35 Tryd.underlying5 Tryd.underlying9 ?_
    intro j hj
    have hj' : j < bs.length := by omega
    obtain ⟨b, off, e, hc⟩ := hB j hj'
    cases e
    rw [addr_add, hc]
    have h9 := hb j
    rw [List.getD_eq_getElem?_getD, List.getElem?_eq_getElem hj'] at h9 ⊢
    simp only [Option.getD_some] at h9
    simp [toU]
    omega

set_option maxRecDepth 100000 in
set_option maxHeartbeats 2000000 in
theorem codeNames_walk (w : World) (hF : Fld w) :
    Calls Tryd.prog 3 #[] w fun e w' => e = .returned (.bool true) ∧ Below w.heap.size w w' := by
  have haw : ∀ W, Below w.heap.size w W → _ := fun W hb => awake_any W (hF.kept hb)
  go_enter Tryd.func3, Tryd.ntmps3
  go_wp2_with fail
  obtain ⟨W1, hW1⟩ : ∃ W, Hid (W = w.alloc (.cells #[.int .i64 0, .int .i64 1, .int .i64 2, .int .i64 3, .int .i64 4, .int .i64 5, .int .i64 6, .int .i64 7, .int .i64 8, .int .i64 9, .int .i64 10, .int .i64 11, .int .i64 12, .int .i64 13, .int .i64 14, .int .i64 15, .int .i64 16, .int .i64 17, .int .i64 18, .int .i64 19, .int .i64 20, .int .i64 21, .int .i64 22, .int .i64 23, .int .i64 24, .int .i64 25, .int .i64 26, .int .i64 27, .int .i64 28, .int .i64 29, .int .i64 30, .int .i64 31, .int .i64 32, .int .i64 33, .int .i64 34] 3)) := ⟨_, rfl⟩
  rw [← hW1.out]
  have b1 : Below w.heap.size w W1 := by rw [hW1.out]; exact (Below.refl _ _).alloc (Nat.le_refl _) _
  have hc : Hid (∀ i, i < 35 → W1.cell? ⟨w.heap.size, i, none⟩ = some (.int .i64 (i : Int))) := hd (fun i hi => by
    rw [hW1.out, cell_of_row _ _ _ _ 3 (0, 0) (heap_alloc_new w _), show (#[.int .i64 0, .int .i64 1, .int .i64 2, .int .i64 3, .int .i64 4, .int .i64 5, .int .i64 6, .int .i64 7, .int .i64 8, .int .i64 9, .int .i64 10, .int .i64 11, .int .i64 12, .int .i64 13, .int .i64 14, .int .i64 15, .int .i64 16, .int .i64 17, .int .i64 18, .int .i64 19, .int .i64 20, .int .i64 21, .int .i64 22, .int .i64 23, .int .i64 24, .int .i64 25, .int .i64 26, .int .i64 27, .int .i64 28, .int .i64 29, .int .i64 30, .int .i64 31, .int .i64 32, .int .i64 33, .int .i64 34] : Array Value) = ((List.range 35).map fun k : Nat => Value.int .i64 (k : Int)).toArray from rfl]
    simp [hi])
  clear hW1
  go_loopw [2, 3, 7] (fun _ _ v7 wr => ∃ i : Nat, v7 = .int .i64 i ∧ i ≤ 35 ∧ wr = W1) (fun _ _ v7 _ => 35 - (intOf v7).toNat)
  case atStart => exact ⟨0, rfl, by omega, rfl⟩
  case round =>
    obtain ⟨i, rfl, hi, rfl⟩ := hrel
    by_cases hlt : i < 35
    · have hx := hc.out i hlt
      go_wp2_with fail
      go_roundw
      case rel => exact ⟨i + 1, by go_num, by omega, trivial⟩
      case measure => simp [intOf]; omega
    · have ei : i = 35 := by omega
      subst ei
      have ha := haw _ b1
      go_wp2_with (go_at_call 9; refine ha.mono ?_; rintro e w2 ⟨rfl, b2⟩)
      go_ret
      exact ⟨rfl, b1.trans (b2.mono b1.size)⟩

set_option maxRecDepth 100000 in
set_option maxHeartbeats 2000000 in
theorem codeReads_walk (a : Option Addr) (cap : Nat) (bs : List Nat) (w : World) (hB : Byt w a bs) (hb : ∀ i, bs.getD i 0 < 256) (hcap : bs.length ≤ cap) (hF : Fld w) :
    Calls Tryd.prog 6 #[.slice a bs.length cap] w fun e w' => e = .returned (.bool true) ∧ Below w.heap.size w w' := by
  have haw := awake_any w hF
  have HF : Hid (Fld w) := hF
  have HB : Hid (Byt w a bs) := hB
  have Hb : Hid (∀ i, bs.getD i 0 < 256) := hb
  clear hF hB hb
  go_enter Tryd.func6, Tryd.ntmps6
  go_wp2_with fail
  refine haw.mono ?_
  rintro e w1 ⟨rfl, b1⟩
  have hd1 := decode_any a cap bs w1 (HB.out.kept b1) (HF.out.kept b1) Hb.out hcap
  go_wp2_with fail
  refine hd1.mono ?_
  intro e w2 h2
  by_cases hr : (decR bs).1 = 0
  · have hlen := (decR_ok hr).1
    obtain ⟨g2, c2, rfl, o2, b2⟩ := decPost_ok h2 hr
    have bw2 := b1.trans (b2.mono b1.size)
    have hd2 := rdecode_any a cap bs w2 (HB.out.kept bw2) Hb.out hcap
    clear h2 hd1 haw b1 b2
    go_wp2_with fail
    refine hd2.mono ?_
    intro e w3 h3
    obtain ⟨g3, c3, rfl, o3, b3⟩ := decPost_ok h3 hr
    have bw3 := bw2.trans (b3.mono bw2.size)
    have hs := same_yes (some ⟨g2, 0, none⟩) (some ⟨g3, 0, none⟩) c2 c3 (decL bs (bs.length / 12)) w3 (by rw [decL_len]; omega) (prg_of_owns (owns_below o2 b3)).1 (prg_of_owns o3).1
    rw [decL_len] at hs
    clear h3 hd2 o2 o3 b3
    go_wp2_with (go_at_call 21; refine hs.mono ?_; rintro e w4 ⟨rfl, n, rfl⟩)
    go_ret
    exact ⟨rfl, below_drewN bw3 n⟩
  · obtain ⟨rfl, b2⟩ := decPost_no h2 hr
    have bw2 := b1.trans (b2.mono b1.size)
    have hd2 := rdecode_any a cap bs w2 (HB.out.kept bw2) Hb.out hcap
    clear h2 hd1 haw b1 b2
    go_wp2_with fail
    refine hd2.mono ?_
    intro e w3 h3
    obtain ⟨rfl, b3⟩ := decPost_no h3 hr
    have bw3 := bw2.trans (b3.mono bw2.size)
    have hs := same_yes none none 0 0 [] w3 (by simp) (fun i hi => absurd hi (Nat.not_lt_zero i)) (fun i hi => absurd hi (Nat.not_lt_zero i))
    clear h3 hd2
    generalize decR bs = R at *
    go_wp2_with (go_at_call 21; refine hs.mono ?_; rintro e w4 ⟨rfl, n, rfl⟩)
    go_ret
    exact ⟨rfl, below_drewN bw3 n⟩
end Go.Proofs.YtngihjmhedkanaaDoor
