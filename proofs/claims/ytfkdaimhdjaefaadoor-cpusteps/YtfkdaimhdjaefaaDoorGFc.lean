/- The document's whole numbers of any size: trim, of. -/
import Derived.Test.YtfkdaimhdjaefaaDoorFW12
import Derived.Test.YtfkdaimhdjaefaaDoorGFm
import Derived.BigQuiet
import Derived.OwnWalk
import Derived.Handy
import Derived.Lib.Hide
namespace Go.Proofs.YtfkdaimhdjaefaaDoor.Flt
open Go.RowKit

/-- A row in memory: these digits. -/
def Row (w : World) (v : Value) (l : List Nat) : Prop :=
  ∃ ao cap, v = .slice ao l.length cap ∧ l.length ≤ cap ∧ cap ≤ 9223372036854775807 ∧ Dig l ∧ (l.length ≠ 0 → ∃ b o, ao = some ⟨b, o, none⟩ ∧ ∀ i, i < l.length → w.cell? ⟨b, o + i, none⟩ = some (.int .u32 (l.getD i 0 : Nat)))

theorem Row.kept {w w' : World} {v : Value} {l : List Nat} (h : Row w v l) (hb : Below w.heap.size w w') : Row w' v l := by
  obtain ⟨ao, cap, rfl, h1, h2, h3, h4⟩ := h
  refine ⟨ao, cap, rfl, h1, h2, h3, fun hn => ?_⟩
  obtain ⟨b, o, e, hc⟩ := h4 hn
  exact ⟨b, o, e, fun i hi => (hb.cell (World.block_lt_of_cell? w _ (hc i hi))).trans (hc i hi)⟩

set_option maxRecDepth 100000 in
theorem trim_any (v : Value) (l : List Nat) (hl : l.length ≤ 1000) (w : World) (h : Row w v l) :
    Calls Tryd.prog 84 #[v] w fun e w' => ∃ v' l', e = .returned v' ∧ w' = w ∧ Row w v' l' ∧ val l' = val l ∧ Norm l' := by
  obtain ⟨ao, cap, rfl, h1, h2, h3, h4⟩ := h
  by_cases h0 : l.length = 0
  · have e0 : l = [] := List.eq_nil_of_length_eq_zero h0
    subst e0
    have hr : Row w (.slice ao 0 cap) [] := ⟨ao, cap, rfl, h1, h2, h3, h4⟩
    clear h0 h4 h1 h2 h3
    go_enter Tryd.func84, Tryd.ntmps84
    go_wp2_with fail
    refine wp_loop_rounds 1 ?_
    rw [rounds_succ]
    go_wp2_with fail
    go_ret
    exact ⟨_, [], rfl, rfl, hr, rfl, .inl rfl⟩
  · obtain ⟨b, o, rfl, hc⟩ := h4 h0
    obtain ⟨n, hn⟩ : ∃ n, l.length = n := ⟨_, rfl⟩
    rw [hn] at hl h1 hc ⊢
    have HC := Lib.hid hc
    have HN := Lib.hid hn
    have H3 := Lib.hid h3
    clear hc hn h3 h4 h0
    go_enter Tryd.func84, Tryd.ntmps84
    go_wp2_with fail
    go_loopw [0] (fun x wr => ∃ k : Nat, k ≤ n ∧ x = .slice (some ⟨b, o, none⟩) k cap ∧ wr = w ∧ Hid (val (l.take k) = val l)) (fun x _ => match x with | .slice _ k _ => k | _ => 0)
    case atStart => exact ⟨n, by omega, rfl, rfl, Lib.hid (by rw [← HN.out, List.take_length])⟩
    case round =>
      obtain ⟨k, hk, rfl, rfl, HI⟩ := hrel
      cases k with
      | zero =>
        go_wp2
        go_ret
        refine ⟨_, [], rfl, rfl, ⟨_, cap, rfl, by simp, h2, fun x hx => by simp at hx, fun h => absurd rfl h⟩, ?_, .inl rfl⟩
        rw [← HI.out]; rfl
      | succ j =>
        rename World => W
        have hcj : W.cell? ⟨b, o + j, none⟩ = some (.int .u32 (l.getD j 0 : Nat)) := HC.out j (by have := HN.out; omega)
        have hjn : j < n := by omega
        have hjc : (j : Int) ≤ (cap : Int) := by omega
        obtain ⟨x, hx⟩ : ∃ x, x = l.getD j 0 := ⟨_, rfl⟩
        rw [← hx] at hcj
        have HX := Lib.hid hx
        clear hx
        by_cases hz : x = 0
        · subst hz
          go_wp2
          go_roundw
          case rel =>
            refine ⟨j, by omega, by go_num, trivial, Lib.hid ?_⟩
            rw [← HI.out, val_take_succ l j (by have := HN.out; omega), ← HX.out]; simp
          case measure => simp
        · have hz' : ((x : Int) == 0) = false := by simp; omega
          go_wp2
          go_ret
          have hlen : (l.take (j + 1)).length = j + 1 := by have := HN.out; simp; omega
          have hget : ∀ i, i < j + 1 → (l.take (j + 1)).getD i 0 = l.getD i 0 := fun i hi => by
            simp [List.getD, hi]
          refine ⟨_, l.take (j + 1), rfl, rfl, ⟨some ⟨b, o, none⟩, cap, by rw [hlen]; rfl, by omega, h2, dig_take l H3.out _, fun _ => ⟨b, o, rfl, fun i hi => ?_⟩⟩, HI.out, .inr ?_⟩
          · rw [hlen] at hi
            rw [hget i hi]; exact HC.out i (by have := HN.out; omega)
          · rw [hlen, show j + 1 - 1 = j by omega, hget j (by omega), ← HX.out]; exact hz
end Go.Proofs.YtfkdaimhdjaefaaDoor.Flt

/- The document's whole numbers of any size: of, times. -/
namespace Go.Proofs.YtfkdaimhdjaefaaDoor.Flt
open Go.RowKit

/-- A number in memory. -/
def Num (w : World) (v : Value) (N : Nat) : Prop := ∃ l, Row w v l ∧ Norm l ∧ val l = N

theorem Num.kept {w w' : World} {v : Value} {N : Nat} (h : Num w v N) (hb : Below w.heap.size w w') : Num w' v N := by
  obtain ⟨l, h1, h2, h3⟩ := h
  exact ⟨l, h1.kept hb, h2, h3⟩

theorem wrap_u32 (x : Nat) : IntKind.u32.wrap (x : Int) = ((x % BB : Nat) : Int) := by
  rw [IntKind.wrap_u32]
  unfold BB
  omega

set_option maxRecDepth 100000 in
theorem of_any (x : Nat) (hx : x < 18446744073709551616) (w : World) :
    Calls Tryd.prog 73 #[.int .u64 x] w fun e w' => ∃ v, e = .returned v ∧ Num w' v x ∧ Below w.heap.size w w' := by
  have e1 : IntKind.u32.wrap (x : Int) = ((x % BB : Nat) : Int) := wrap_u32 x
  have e2 : IntKind.u32.wrap ((x : Int) / 4294967296) = ((x / BB : Nat) : Int) := by
    rw [IntKind.wrap_u32]; unfold BB; omega
  have hrow : Row (w.alloc (.cells #[.int .u32 (x % BB : Nat), .int .u32 (x / BB : Nat)] 96)) (.slice (some ⟨w.heap.size, 0, none⟩) 2 2) [x % BB, x / BB] := by
    refine ⟨_, 2, rfl, by simp, by omega, fun y hy => ?_, fun _ => ⟨w.heap.size, 0, rfl, fun i hi => ?_⟩⟩
    · unfold BB at hy ⊢; simp at hy; omega
    · match i, hi with
      | 0, _ => simp [go_sem]
      | 1, _ => simp [go_sem]
  have hT := trim_any _ _ (by simp) _ hrow
  have hv : val [x % BB, x / BB] = x := by simp [val]; unfold BB; omega
  rw [hv] at hT
  clear hrow hv
  go_enter Tryd.func73, Tryd.ntmps73
  go_wp2_with fail
  refine hT.mono ?_
  rintro e w1 ⟨v, l, rfl, rfl, h1, h2, h3⟩
  go_wp2
  go_ret
  exact ⟨v, rfl, ⟨l, h1, h3, h2⟩, (Below.refl _ w).alloc (Nat.le_refl _) _⟩
end Go.Proofs.YtfkdaimhdjaefaaDoor.Flt
