/- The document's whole numbers of any size: times. -/
import Derived.Test.YtadlppllbebkdaaGreatDoorW16
import Derived.Maps.AppendAt
namespace Go.Proofs.YtadlppllbebkdaaGreatDoor
open Go.RowKit

theorem info70 : (Tryz.prog.info? 70).map (fun i => (i.zero, i.size, i.bytes)) = some (some (.int .u32 0), 1, 4) := by kernel_rfl

def u32s (l : List Nat) : List Value := l.map fun (x : Nat) => Value.int .u32 (x : Int)

theorem u32s_snoc (l : List Nat) (x : Nat) : u32s l ++ [.int .u32 (x : Int)] = u32s (l ++ [x]) := by simp [u32s]
theorem u32s_len (l : List Nat) : (u32s l).length = l.length := by simp [u32s]
theorem u32s_one (l : List Nat) : ∀ u ∈ u32s l, u.oneCell' = true := by
  intro u hu
  simp only [u32s, List.mem_map] at hu
  obtain ⟨b, -, rfl⟩ := hu
  rfl

/-- A row of the call's own is a row. -/
theorem row_own {w : World} {B n : Nat} {v : Value} {l : List Nat} (h : w.ownsRow B 70 1 v n (u32s l)) (hl : l.length = n) (hd : Dig l) : Row w v l := by
  subst hl
  have hc := h
  rcases h.2 with ⟨rfl, h0⟩ | ⟨g, cap, cur, rfl, hg, hh, h1, h2, h3, h4⟩
  · have : l = [] := List.eq_nil_of_length_eq_zero h0
    subst this
    exact ⟨none, 0, rfl, by simp, by omega, hd, fun h => absurd rfl h⟩
  · refine ⟨some ⟨g, 0, none⟩, cap, rfl, h1, by unfold maxLen at h2; omega, hd, fun _ => ⟨g, 0, rfl, fun i hi => ?_⟩⟩
    have := hc.cells (g := g) rfl i (.int .u32 (l.getD i 0 : Nat)) (by simp [u32s, List.getD, hi])
    rw [Addr.add_lit] at this
    exact this

theorem own_empty (w : World) : (w.alloc (.cells #[] 70)).ownsRow w.heap.size 70 1 (.slice (some ⟨w.heap.size, 0, none⟩) 0 0) 0 (u32s []) :=
  ⟨by simp [u32s], .inr ⟨w.heap.size, 0, #[], rfl, Nat.le_refl _, heap_alloc_new w _, by simp, by unfold maxLen; omega, by simp, by simp [u32s]⟩⟩

theorem own_len {w : World} {B e z n m : Nat} {v : Value} {xs : List Value} (hn : n = m) (h : w.ownsRow B e z v n xs) : w.ownsRow B e z v m xs := hn ▸ h

set_option maxRecDepth 100000 in
set_option maxHeartbeats 1000000 in
theorem times_any (v : Value) (l : List Nat) (m : Nat) (hl : l.length ≤ 900) (hm : m < BB) (w : World) (h : Row w v l) :
    Calls Tryz.prog 49 #[v, .int .u32 m] w fun e w' => ∃ v', e = .returned v' ∧ Num w' v' (m * val l) ∧ Below w.heap.size w w' := by
  obtain ⟨i0, hi, hz0, hz1, hz2⟩ := info_parts info70
  have hB : BB = 4294967296 := rfl
  obtain ⟨ao, cap, rfl, h1, h2, h3, h4⟩ := h
  by_cases h0 : l.length = 0
  · have e0 : l = [] := List.eq_nil_of_length_eq_zero h0
    subst e0
    have eu : IntKind.u32.wrap 0 = 0 := by kernel_rfl
    clear h0 h4 h1 h3
    go_enter Tryz.func49, Tryz.ntmps49
    go_wp2_with fail
    refine wp_loop_rounds 1 ?_
    rw [rounds_succ]
    go_wp2_with (at_builtin; refine wpList_append_own _ rfl _ _ 62 rfl w.heap.size 70 i0 (.int .u32 0) 1 4 Tryz.underlying62 hi hz0 hz1 hz2 rfl (by decide) _ _ _ rfl ((own_empty w).alloc _) ⟨_, 0, none⟩ 1 1 [.int .u32 0] rfl rfl (by have h := cell_one_new (w.alloc (.cells #[] 70)) (.int .u32 0) 70; rw [World.size_alloc] at h; exact h) (by simp [Value.oneCell']) (by unfold maxLen; omega) (by omega) (by simp; omega) ?_; intro v1 w1 hown1 hgrow1 hx1)
    rw [show u32s [] ++ [Value.int .u32 0] = u32s [0] from rfl] at hown1
    have hb1 : Below w.heap.size w w1 := (((Below.refl _ w).alloc (Nat.le_refl _) _).alloc (by simp) _).grown hgrow1 (by simp; omega) (fun j hj => ((own_empty w).lt j hj).1)
    refine (trim_any v1 [0] (by simp) w1 (row_own hown1 rfl (fun y hy => by simp at hy; rw [hy]; decide))).mono ?_
    rintro e w2 ⟨v', l', rfl, rfl, r1, r2, r3⟩
    go_wp2
    go_ret
    exact ⟨v', rfl, ⟨l', r1, r3, by rw [r2]; simp [val]⟩, hb1⟩
  · obtain ⟨b, o, rfl, hc⟩ := h4 h0
    obtain ⟨n, hn⟩ : ∃ n, l.length = n := ⟨_, rfl⟩
    rw [hn] at hl h1 hc ⊢
    have HC := Lib.hid hc
    have HN := Lib.hid hn
    have H3 := Lib.hid h3
    clear hc hn h3 h4 h0
    go_enter Tryz.func49, Tryz.ntmps49
    go_wp2_with fail
    go_loopw [5, 6, 7] (fun x c i wr => ∃ (k C : Nat) (L : List Nat), k ≤ n ∧ i = .int .i64 k ∧ c = .int .u64 C ∧ C < BB ∧ wr.ownsRow w.heap.size 70 1 x k (u32s L) ∧ Hid (L.length = k ∧ Dig L ∧ val L + BB ^ k * C = m * val (l.take k)) ∧ Below w.heap.size w wr) (fun _ _ i _ => n - (intOf i).toNat)
    case atStart => exact ⟨0, 0, [], by omega, rfl, rfl, by decide, own_empty w, Lib.hid ⟨rfl, fun y hy => by simp at hy, by simp [val]⟩, (Below.refl _ w).alloc (Nat.le_refl _) _⟩
    case round =>
      obtain ⟨k, C, L, hk, rfl, rfl, hC, hown, HI, hb⟩ := hrel
      have hsz := hb.size
      by_cases hlt : k < n
      · obtain ⟨x, hx⟩ : ∃ x, x = l.getD k 0 := ⟨_, rfl⟩
        rename World => wr
        have hcell : wr.cell? ⟨b, o + k, none⟩ = some (.int .u32 (x : Nat)) := by
          have h := HC.out k hlt
          rw [hx]
          exact (hb.cell (World.block_lt_of_cell? w _ h)).trans h
        have hxB : x < 4294967296 := by rw [hx]; exact dig_getD l H3.out k
        obtain ⟨y, hy⟩ : ∃ y, x * m = y := ⟨_, rfl⟩
        have ey : (x : Int) * (m : Int) = (y : Int) := by rw [← hy]; simp
        have hyB : y ≤ 4294967295 * 4294967295 := by rw [← hy]; exact Nat.mul_le_mul (by omega) (by omega)
        have e1 : IntKind.u32.wrap ((C : Int) + (y : Int)) = (((C + y) % BB : Nat) : Int) := by
          have := wrap_u32 (C + y)
          simpa using this
        have e2 : ((C : Int) + (y : Int)) / 4294967296 = (((C + y) / BB : Nat) : Int) := by unfold BB; omega
        have hst := times_step (val L) (val (l.take k)) C x m k HI.out.2.2
        rw [hy, hx, ← val_take_succ l k (by have := HN.out; omega)] at hst
        have HST := Lib.hid hst
        have HX := Lib.hid hx
        have hd1 : (C + y) % BB < BB := Nat.mod_lt _ (by decide)
        have hd2 : (C + y) / BB < BB := by unfold BB at hC ⊢; omega
        have hk' : (k : Int) < (n : Int) := by omega
        have hmi : (m : Int) < 4294967296 := by omega
        clear hst hx hy
        obtain ⟨D, hD⟩ : ∃ D, D = (C + y) % BB := ⟨_, rfl⟩
        obtain ⟨C', hC'⟩ : ∃ D, D = (C + y) / BB := ⟨_, rfl⟩
        rw [← hD] at e1 hd1
        rw [← hC'] at e2 hd2
        have HD := Lib.hid hD
        have HC' := Lib.hid hC'
        clear hD hC'
        go_wp2_with (at_builtin; refine wpList_append_own _ rfl _ _ 62 rfl w.heap.size 70 i0 (.int .u32 0) 1 4 Tryz.underlying62 hi hz0 hz1 hz2 rfl (by decide) _ _ _ rfl (hown.alloc _) ⟨_, 0, none⟩ 1 1 [.int .u32 (D : Int)] rfl rfl (cell_one_new _ _ _) (by simp [Value.oneCell']) (by unfold maxLen; omega) (by omega) (by simp; omega) ?_; intro v1 w1 hown1 hgrow1 hx1)
        rw [u32s_snoc] at hown1
        have hb1 : Below w.heap.size w w1 := (hb.alloc hsz _).grown hgrow1 (by simp; omega) (fun j hj => (hown.lt j hj).1)
        go_roundw
        case rel =>
          refine ⟨k + 1, C', L ++ [D], by omega, by go_num, rfl, hd2, hown1, Lib.hid ⟨by simp [HI.out.1], dig_snoc L D HI.out.2.1 hd1, ?_⟩, hb1⟩
          rw [val_snoc, HI.out.1, HD.out, HC'.out]
          exact HST.out
        case measure => simp [intOf]; omega
      · have hkn : k = n := by omega
        subst hkn
        rename World => wr
        have e1 : IntKind.u32.wrap (C : Int) = (C : Int) := by
          rw [IntKind.wrap_u32]; unfold BB at hC; omega
        have htk : val L + BB ^ k * C = m * val l := by
          have := HI.out.2.2
          rw [← HN.out, List.take_length] at this
          rw [← HN.out]; exact this
        have HT := Lib.hid htk
        clear htk
        go_wp2_with (at_builtin; refine wpList_append_own _ rfl _ _ 62 rfl w.heap.size 70 i0 (.int .u32 0) 1 4 Tryz.underlying62 hi hz0 hz1 hz2 rfl (by decide) _ _ _ rfl (hown.alloc _) ⟨_, 0, none⟩ 1 1 [.int .u32 (C : Int)] rfl rfl (cell_one_new _ _ _) (by simp [Value.oneCell']) (by unfold maxLen; omega) (by omega) (by simp; omega) ?_; intro v1 w1 hown1 hgrow1 hx1)
        rw [u32s_snoc] at hown1
        have hb1 : Below w.heap.size w w1 := (hb.alloc hsz _).grown hgrow1 (by simp; omega) (fun j hj => (hown.lt j hj).1)
        refine (trim_any v1 (L ++ [C]) (by simp [HI.out.1]; omega) w1 (row_own hown1 (by simp [HI.out.1]) (dig_snoc L C HI.out.2.1 hC))).mono ?_
        rintro e w2 ⟨v', l', rfl, rfl, r1, r2, r3⟩
        go_wp2
        go_ret
        exact ⟨v', rfl, ⟨l', r1, r3, by rw [r2, val_snoc, HI.out.1]; exact HT.out⟩, hb1⟩
end Go.Proofs.YtadlppllbebkdaaGreatDoor
