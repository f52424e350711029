/- The document's whole numbers of any size: times. -/
import Derived.Test.YtfkdaimhdjaefaaDoorGFc
import Derived.Maps.AppendAt
namespace Go.Proofs.YtfkdaimhdjaefaaDoor.Flt
open Go.RowKit

theorem info70 : (Tryd.prog.info? 96).map (fun i => (i.zero, i.size, i.bytes)) = some (some (.int .u32 0), 1, 4) := by kernel_rfl

def u32s (l : List Nat) : List Value := l.map fun (x : Nat) => Value.int .u32 (x : Int)

theorem u32s_snoc (l : List Nat) (x : Nat) : u32s l ++ [.int .u32 (x : Int)] = u32s (l ++ [x]) := by simp [u32s]
theorem u32s_len (l : List Nat) : (u32s l).length = l.length := by simp [u32s]
theorem u32s_one (l : List Nat) : ∀ u ∈ u32s l, u.oneCell' = true := by
  intro u hu
  simp only [u32s, List.mem_map] at hu
  obtain ⟨b, -, rfl⟩ := hu
  rfl

/-- A row of the call's own is a row. -/
theorem row_own {w : World} {B n : Nat} {v : Value} {l : List Nat} (h : w.ownsRow B 96 1 v n (u32s l)) (hl : l.length = n) (hd : Dig l) : Row w v l := by
  subst hl
  have hc := h
  rcases h.2 with ⟨rfl, h0⟩ | ⟨g, cap, cur, rfl, hg, hh, h1, h2, h3, h4⟩
  · have : l = [] := List.eq_nil_of_length_eq_zero h0
    subst this
    exact ⟨none, 0, rfl, by simp, by omega, hd, fun h => absurd rfl h⟩
  · refine ⟨some ⟨g, 0, none⟩, cap, rfl, h1, by unfold maxLen at h2; omega, hd, fun _ => ⟨g, 0, rfl, fun i hi => ?_⟩⟩
    have := hc.cells (g := g) rfl i (.int .u32 (l.getD i 0 : Nat)) (by simp [u32s, List.getD, hi])
    rw [Addr.add_lit] at this
    exact this

theorem own_empty (w : World) : (w.alloc (.cells #[] 96)).ownsRow w.heap.size 96 1 (.slice (some ⟨w.heap.size, 0, none⟩) 0 0) 0 (u32s []) :=
  ⟨by simp [u32s], .inr ⟨w.heap.size, 0, #[], rfl, Nat.le_refl _, heap_alloc_new w _, by simp, by unfold maxLen; omega, by simp, by simp [u32s]⟩⟩

theorem own_len {w : World} {B e z n m : Nat} {v : Value} {xs : List Value} (hn : n = m) (h : w.ownsRow B e z v n xs) : w.ownsRow B e z v m xs := hn ▸ h

set_option maxRecDepth 100000 in
set_option maxHeartbeats 1000000 in
theorem times_any (v : Value) (l : List Nat) (m : Nat) (hl : l.length ≤ 900) (hm : m < BB) (w : World) (h : Row w v l) :
    Calls Tryd.prog 79 #[v, .int .u32 m] w fun e w' => ∃ v', e = .returned v' ∧ Num w' v' (m * val l) ∧ Below w.heap.size w w' := by
  obtain ⟨i0, hi, hz0, hz1, hz2⟩ := info_parts info70
  have hB : BB = 4294967296 := rfl
  obtain ⟨ao, cap, rfl, h1, h2, h3, h4⟩ := h
  by_cases h0 : l.length = 0
  · have e0 : l = [] := List.eq_nil_of_length_eq_zero h0
    subst e0
    have eu : IntKind.u32.wrap 0 = 0 := by kernel_rfl
    clear h0 h4 h1 h3
    go_enter Tryd.func79, Tryd.ntmps79
    go_wp2_with fail
    refine wp_loop_rounds 1 ?_
    rw [rounds_succ]
    go_wp2_with (at_builtin; refine wpList_append_own _ rfl _ _ 88 rfl w.heap.size 96 i0 (.int .u32 0) 1 4 Tryd.underlying88 hi hz0 hz1 hz2 rfl (by decide) _ _ _ rfl ((own_empty w).alloc _) ⟨_, 0, none⟩ 1 1 [.int .u32 0] rfl rfl (by have h := cell_one_new (w.alloc (.cells #[] 96)) (.int .u32 0) 96; rw [World.size_alloc] at h; exact h) (by simp [Value.oneCell']) (by unfold maxLen; omega) (by omega) (by simp; omega) ?_; intro v1 w1 hown1 hgrow1 hx1)
    rw [show u32s [] ++ [Value.int .u32 0] = u32s [0] from rfl] at hown1
    have hb1 : Below w.heap.size w w1 := (((Below.refl _ w).alloc (Nat.le_refl _) _).alloc (by simp) _).grown hgrow1 (by simp; omega) (fun j hj => ((own_empty w).lt j hj).1)
    refine (trim_any v1 [0] (by simp) w1 (row_own hown1 rfl (fun y hy => by simp at hy; rw [hy]; decide))).mono ?_
    rintro e w2 ⟨v', l', rfl, rfl, r1, r2, r3⟩
    go_wp2
    go_ret
    exact ⟨v', rfl, ⟨l', r1, r3, by rw [r2]; simp [val]⟩, hb1⟩
  · obtain ⟨b, o, rfl, hc⟩ := h4 h0
    obtain ⟨n, hn⟩ : ∃ n, l.length = n := ⟨_, rfl⟩
    rw [hn] at hl h1 hc ⊢
    have HC := Lib.hid hc
    have HN := Lib.hid hn
    have H3 := Lib.hid h3
    clear hc hn h3 h4 h0
    go_enter Tryd.func79, Tryd.ntmps79
    go_wp2_with fail
    go_loopw [5, 6, 7] (fun x c i wr => ∃ (k C : Nat) (L : List Nat), k ≤ n ∧ i = .int .i64 k ∧ c = .int .u64 C ∧ C < BB ∧ wr.ownsRow w.heap.size 96 1 x k (u32s L) ∧ Hid (L.length = k ∧ Dig L ∧ val L + BB ^ k * C = m * val (l.take k)) ∧ Below w.heap.size w wr) (fun _ _ i _ => n - (intOf i).toNat)
    case atStart => exact ⟨0, 0, [], by omega, rfl, rfl, by decide, own_empty w, Lib.hid ⟨rfl, fun y hy => by simp at hy, by simp [val]⟩, (Below.refl _ w).alloc (Nat.le_refl _) _⟩
    case round =>
      obtain ⟨k, C, L, hk, rfl, rfl, hC, hown, HI, hb⟩ := hrel
      have hsz := hb.size
      by_cases hlt : k < n
      · obtain ⟨x, hx⟩ : ∃ x, x = l.getD k 0 := ⟨_, rfl⟩
        rename World => wr
        have hcell : wr.cell? ⟨b, o + k, none⟩ = some (.int .u32 (x : Nat)) := by
          have h := HC.out k hlt
          rw [hx]
          exact (hb.cell (World.block_lt_of_cell? w _ h)).trans h
        have hxB : x < 4294967296 := by rw [hx]; exact dig_getD l H3.out k
        obtain ⟨y, hy⟩ : ∃ y, x * m = y := ⟨_, rfl⟩
        have ey : (x : Int) * (m : Int) = (y : Int) := by rw [← hy]; simp
        have hyB : y ≤ 4294967295 * 4294967295 := by rw [← hy]; exact Nat.mul_le_mul (by omega) (by omega)
        have e1 : IntKind.u32.wrap ((C : Int) + (y : Int)) = (((C + y) % BB : Nat) : Int) := by
          have := wrap_u32 (C + y)
          simpa using this
        have e2 : ((C : Int) + (y : Int)) / 4294967296 = (((C + y) / BB : Nat) : Int) := by unfold BB; omega
        have hst := times_step (val L) (val (l.take k)) C x m k HI.out.2.2
        rw [hy, hx, ← val_take_succ l k (by have := HN.out; omega)] at hst
        have HST := Lib.hid hst
        have HX := Lib.hid hx
        have hd1 : (C + y) % BB < BB := Nat.mod_lt _ (by decide)
        have hd2 : (C + y) / BB < BB := by unfold BB at hC ⊢; omega
        have hk' : (k : Int) < (n : Int) := by omega
        have hmi : (m : Int) < 4294967296 := by omega
        clear hst hx hy
        obtain ⟨D, hD⟩ : ∃ D, D = (C + y) % BB := ⟨_, rfl⟩
        obtain ⟨C', hC'⟩ : ∃ D, D = (C + y) / BB := ⟨_, rfl⟩
        rw [← hD] at e1 hd1
        rw [← hC'] at e2 hd2
        have HD := Lib.hid hD
        have HC' := Lib.hid hC'
        clear hD hC'
        go_wp2_with (at_builtin; refine wpList_append_own _ rfl _ _ 88 rfl w.heap.size 96 i0 (.int .u32 0) 1 4 Tryd.underlying88 hi hz0 hz1 hz2 rfl (by decide) _ _ _ rfl (hown.alloc _) ⟨_, 0, none⟩ 1 1 [.int .u32 (D : Int)] rfl rfl (cell_one_new _ _ _) (by simp [Value.oneCell']) (by unfold maxLen; omega) (by omega) (by simp; omega) ?_; intro v1 w1 hown1 hgrow1 hx1)
        rw [u32s_snoc] at hown1
        have hb1 : Below w.heap.size w w1 := (hb.alloc hsz _).grown hgrow1 (by simp; omega) (fun j hj => (hown.lt j hj).1)
        go_roundw
        case rel =>
          refine ⟨k + 1, C', L ++ [D], by omega, by go_num, rfl, hd2, hown1, Lib.hid ⟨by simp [HI.out.1], dig_snoc L D HI.out.2.1 hd1, ?_⟩, hb1⟩
          rw [val_snoc, HI.out.1, HD.out, HC'.out]
          exact HST.out
        case measure => simp [intOf]; omega
      · have hkn : k = n := by omega
        subst hkn
        rename World => wr
        have e1 : IntKind.u32.wrap (C : Int) = (C : Int) := by
          rw [IntKind.wrap_u32]; unfold BB at hC; omega
        have htk : val L + BB ^ k * C = m * val l := by
          have := HI.out.2.2
          rw [← HN.out, List.take_length] at this
          rw [← HN.out]; exact this
        have HT := Lib.hid htk
        clear htk
        go_wp2_with (at_builtin; refine wpList_append_own _ rfl _ _ 88 rfl w.heap.size 96 i0 (.int .u32 0) 1 4 Tryd.underlying88 hi hz0 hz1 hz2 rfl (by decide) _ _ _ rfl (hown.alloc _) ⟨_, 0, none⟩ 1 1 [.int .u32 (C : Int)] rfl rfl (cell_one_new _ _ _) (by simp [Value.oneCell']) (by unfold maxLen; omega) (by omega) (by simp; omega) ?_; intro v1 w1 hown1 hgrow1 hx1)
        rw [u32s_snoc] at hown1
        have hb1 : Below w.heap.size w w1 := (hb.alloc hsz _).grown hgrow1 (by simp; omega) (fun j hj => (hown.lt j hj).1)
        refine (trim_any v1 (L ++ [C]) (by simp [HI.out.1]; omega) w1 (row_own hown1 (by simp [HI.out.1]) (dig_snoc L C HI.out.2.1 hC))).mono ?_
        rintro e w2 ⟨v', l', rfl, rfl, r1, r2, r3⟩
        go_wp2
        go_ret
        exact ⟨v', rfl, ⟨l', r1, r3, by rw [r2, val_snoc, HI.out.1]; exact HT.out⟩, hb1⟩
end Go.Proofs.YtfkdaimhdjaefaaDoor.Flt

/- The document's whole numbers of any size: shift. -/
namespace Go.Proofs.YtfkdaimhdjaefaaDoor.Flt
open Go.RowKit

theorem cells_row {w w' : World} {b o : Nat} {l : List Nat} (hc : ∀ i, i < l.length → w.cell? ⟨b, o + i, none⟩ = some (.int .u32 (l.getD i 0 : Nat))) (hb : Below w.heap.size w w') :
    ∀ j u, (u32s l)[j]? = some u → w'.cell? ((⟨b, o, none⟩ : Addr).add j) = some u := by
  intro j u hu
  have hj : j < l.length := by
    have := (List.getElem?_eq_some_iff.1 hu).1
    rwa [u32s_len] at this
  rw [Addr.add_lit, (hb.cell (World.block_lt_of_cell? w _ (hc j hj))).trans (hc j hj)]
  rw [← hu]
  simp [u32s, List.getD, hj]

theorem u32s_append (l m : List Nat) : u32s l ++ u32s m = u32s (l ++ m) := by simp [u32s]

set_option maxRecDepth 100000 in
set_option maxHeartbeats 1000000 in
theorem shift_any (v : Value) (N n : Nat) (hn : n ≤ 3000) (hN : N < BB ^ 300) (w : World) (h : Num w v N) :
    Calls Tryd.prog 72 #[v, .int .i64 n] w fun e w' => ∃ v', e = .returned v' ∧ Num w' v' (N * 2 ^ n) ∧ Below w.heap.size w w' := by
  obtain ⟨i0, hi, hz0, hz1, hz2⟩ := info_parts info70
  obtain ⟨l, ⟨ao, cap, rfl, h1, h2, h3, h4⟩, hno, hva⟩ := h
  by_cases h0 : l.length = 0
  · have e0 : l = [] := List.eq_nil_of_length_eq_zero h0
    subst e0
    have hz : N = 0 := by rw [← hva]; rfl
    have hr : Num w (.slice ao 0 cap) (N * 2 ^ n) := ⟨[], ⟨ao, cap, rfl, h1, h2, h3, h4⟩, hno, by rw [hz]; simp [val]⟩
    clear h0 h4 h1 h3 hz hva hno
    go_enter Tryd.func72, Tryd.ntmps72
    go_wp2_with fail
    go_ret
    exact ⟨_, rfl, hr, Below.refl _ _⟩
  · have hlen : l.length ≤ 300 := norm_len l hno 300 (by rw [hva]; exact hN)
    obtain ⟨b, o, rfl, hc⟩ := h4 h0
    have HC := Lib.hid hc
    have hrow := fun (W : World) (B : Below w.heap.size w W) => cells_row hc B
    obtain ⟨k0, hk0⟩ : ∃ k, l.length = k := ⟨_, rfl⟩
    rw [hk0] at h1 hlen h0 ⊢
    have hk1 : ((k0 : Int) == 0) = false := by simp; omega
    obtain ⟨q, hq⟩ : ∃ q, n / 32 = q := ⟨_, rfl⟩
    obtain ⟨r, hr⟩ : ∃ r, n % 32 = r := ⟨_, rfl⟩
    have eq1 : (n : Int).tdiv 32 = (q : Int) := by rw [← hq]; exact Int.ofNat_tdiv n 32
    have er1 : (n : Int).tmod 32 = (r : Int) := by rw [← hr]; exact Int.ofNat_tmod n 32
    have hq2 : q ≤ 100 := by omega
    have hr2 : r < 32 := by omega
    obtain ⟨P, hP⟩ : ∃ P, 2 ^ r = P := ⟨_, rfl⟩
    have hPB : P < BB := by
      rw [← hP]
      exact Nat.pow_lt_pow_right (a := 2) (by decide) (show r < 32 by omega)
    have e3 : (2 : Int) ^ r % 4294967296 = (P : Int) := by
      have : (2 : Int) ^ r = ((2 ^ r : Nat) : Int) := by simp
      rw [this, hP]
      unfold BB at hPB
      omega
    have HP := Lib.hid hP
    have HQ := Lib.hid hq
    have HR := Lib.hid hr
    have HK := Lib.hid hk0
    have HROW := Lib.hid hrow
    have HV := Lib.hid (And.intro hva (And.intro hno h3))
    clear hP hq hr hc h4 hk0 h0 hrow hva hno h3
    go_enter Tryd.func72, Tryd.ntmps72
    go_wp2_with fail
    go_loopw [5, 6] (fun x i wr => ∃ k : Nat, k ≤ q ∧ i = .int .i64 k ∧ wr.ownsRow w.heap.size 96 1 x k (u32s (List.replicate k 0)) ∧ Below w.heap.size w wr) (fun _ i _ => q - (intOf i).toNat)
    case atStart => exact ⟨0, by omega, rfl, own_empty w, (Below.refl _ w).alloc (Nat.le_refl _) _⟩
    case round =>
      obtain ⟨k, hk, rfl, hown, hb⟩ := hrel
      have hsz := hb.size
      by_cases hlt : k < q
      · have hk' : (k : Int) < (q : Int) := by omega
        go_wp2_with (at_builtin; refine wpList_append_own _ rfl _ _ 88 rfl w.heap.size 96 i0 (.int .u32 0) 1 4 Tryd.underlying88 hi hz0 hz1 hz2 rfl (by decide) _ _ _ rfl (hown.alloc _) ⟨_, 0, none⟩ 1 1 [.int .u32 0] rfl rfl (cell_one_new _ _ _) (by simp [Value.oneCell']) (by unfold maxLen; omega) (by omega) (by simp; omega) ?_; intro v1 w1 hown1 hgrow1 hx1)
        rw [show [Value.int .u32 0] = u32s [0] from rfl, u32s_append, show List.replicate k 0 ++ [0] = List.replicate (k + 1) 0 from (List.replicate_succ' ..).symm] at hown1
        have hb1 : Below w.heap.size w w1 := (hb.alloc hsz _).grown hgrow1 (by simp; omega) (fun j hj => (hown.lt j hj).1)
        go_roundw
        case rel => exact ⟨k + 1, by omega, by go_num, hown1, hb1⟩
        case measure => simp [intOf]; omega
      · have hkn : k = q := by omega
        subst hkn
        rename World => wr
        go_wp2_with (at_builtin; refine wpList_append_own _ rfl _ _ 88 rfl w.heap.size 96 i0 (.int .u32 0) 1 4 Tryd.underlying88 hi hz0 hz1 hz2 rfl (by decide) _ _ _ rfl hown ⟨b, o, none⟩ k0 cap (u32s l) rfl (by rw [u32s_len, HK.out, Nat.mul_one]) (HROW.out _ hb) (u32s_one l) (by unfold maxLen; omega) (by omega) hsz ?_; intro v1 w1 hown1 hgrow1 hx1)
        rw [u32s_append] at hown1
        have hb1 : Below w.heap.size w w1 := hb.grown hgrow1 hsz (fun j hj => (hown.lt j hj).1)
        have hdl : Dig (List.replicate k 0 ++ l) := fun y hy => by
          rcases List.mem_append.1 hy with h | h
          · rw [(List.mem_replicate.1 h).2]; decide
          · exact HV.out.2.2 y h
        have hll : (List.replicate k 0 ++ l).length = k + k0 := by simp [HK.out]
        refine (times_any v1 (List.replicate k 0 ++ l) P (by rw [hll]; omega) hPB w1 (row_own hown1 hll hdl)).mono ?_
        rintro e w2 ⟨v', rfl, r1, b2⟩
        go_wp2
        go_ret
        refine ⟨v', rfl, ?_, hb1.trans (b2.mono hb1.size)⟩
        have ev : P * val (List.replicate k 0 ++ l) = N * 2 ^ n := by
          rw [val_append, val_zeros, Nat.zero_add, List.length_replicate, HV.out.1, ← HP.out, BB_two]
          have en : n = r + 32 * k := by have h1 := HQ.out; have h2 := HR.out; omega
          rw [en, pow_add', Nat.mul_comm (2 ^ (32 * k)) N, Nat.mul_left_comm]
        rw [← ev]; exact r1
end Go.Proofs.YtfkdaimhdjaefaaDoor.Flt

/- The document's whole numbers of any size: compare. -/
namespace Go.Proofs.YtfkdaimhdjaefaaDoor.Flt
open Go.RowKit

def cmpN (a b : Nat) : Int := if a < b then -1 else if b < a then 1 else 0

set_option maxRecDepth 100000 in
set_option maxHeartbeats 1000000 in
theorem compare_any (va vb : Value) (A B : Nat) (hA : A < BB ^ 400) (hB : B < BB ^ 400) (w : World) (h : Num w va A) (h' : Num w vb B) :
    Calls Tryd.prog 76 #[va, vb] w fun e w' => e = .returned (.int .i64 (cmpN A B)) ∧ ∃ n, w' = w.drewN n := by
  obtain ⟨l, ⟨ao, cap, rfl, h1, h2, h3, h4⟩, hno, hva⟩ := h
  obtain ⟨m, ⟨bo, bap, rfl, g1, g2, g3, g4⟩, gno, gva⟩ := h'
  have hl := norm_len l hno 400 (by rw [hva]; exact hA)
  have hm := norm_len m gno 400 (by rw [gva]; exact hB)
  rcases Nat.lt_trichotomy l.length m.length with hc | hc | hc
  · have hv := val_lt_len l m gno h3 hc
    rw [hva, gva] at hv
    have hr : cmpN A B = -1 := by unfold cmpN; rw [if_pos hv]
    rw [hr]
    obtain ⟨a, ha⟩ : ∃ a, l.length = a := ⟨_, rfl⟩
    obtain ⟨b, hb⟩ : ∃ a, m.length = a := ⟨_, rfl⟩
    rw [ha] at hc ⊢
    rw [hb] at hc ⊢
    have n1 : ((a : Int) != (b : Int)) = true := by simp; omega
    have n2 : (a : Int) < (b : Int) := by omega
    clear ha hb hv hr hva gva h4 g4 hno gno h1 g1 hl hm
    go_enter Tryd.func76, Tryd.ntmps76
    go_wp2
    go_ret
    exact ⟨rfl, 0, rfl⟩
  · by_cases h0 : l.length = 0
    · have e0 : l = [] := List.eq_nil_of_length_eq_zero h0
      have e1 : m = [] := List.eq_nil_of_length_eq_zero (by omega)
      subst e0 e1
      have hr : cmpN A B = 0 := by rw [← hva, ← gva]; rfl
      rw [hr]
      clear h4 g4 hr hva gva hno gno h0 hc h1 g1 hl hm
      go_enter Tryd.func76, Tryd.ntmps76
      go_wp2_with fail
      refine wp_loop_rounds 1 ?_
      rw [rounds_succ]
      go_wp2_with fail
      go_ret
      exact ⟨rfl, 0, rfl⟩
    · obtain ⟨b1, o1, rfl, c1⟩ := h4 h0
      obtain ⟨b2, o2, rfl, c2⟩ := g4 (by omega)
      obtain ⟨n, hn⟩ : ∃ a, l.length = a := ⟨_, rfl⟩
      have hn2 : m.length = n := by omega
      rw [hn] at h1 hl h0 ⊢
      rw [hn2] at g1 ⊢
      have C1 := Lib.hid c1
      have C2 := Lib.hid c2
      have HN := Lib.hid (And.intro hn hn2)
      have HV := Lib.hid (And.intro hva gva)
      have HD := Lib.hid (And.intro h3 g3)
      have nn : ((n : Int) != (n : Int)) = false := by simp
      clear c1 c2 h4 g4 hn hn2 hva gva hno gno hc h3 g3 hm
      obtain ⟨R, hR⟩ : ∃ R, cmpN A B = R := ⟨_, rfl⟩
      rw [hR]
      have HR := Lib.hid hR
      clear hR
      go_enter Tryd.func76, Tryd.ntmps76
      go_wp2_with fail
      go_loopw [5] (fun x wr => ∃ k q : Nat, k ≤ n ∧ x = .int .i64 ((k : Int) - 1) ∧ wr = w.drewN q ∧ Hid (l.drop k = m.drop k)) (fun x _ => (intOf x + 1).toNat)
      case atStart => exact ⟨n, 0, by omega, rfl, rfl, Lib.hid (by rw [List.drop_of_length_le (by have := HN.out.1; omega), List.drop_of_length_le (by have := HN.out.2; omega)])⟩
      case round =>
        obtain ⟨k, q, hk, rfl, rfl, HI⟩ := hrel
        cases k with
        | zero =>
          have hz : decide ((((0 : Nat) : Int) - 1) ≥ 0) = false := by decide
          have hr : cmpN A B = 0 := by
            have := HI.out
            simp only [List.drop_zero] at this
            rw [← HV.out.1, ← HV.out.2, this]; simp [cmpN]
          rw [HR.out] at hr
          have HR0 := Lib.hid hr
          clear hr
          go_wp2_with fail
          go_ret
          exact ⟨by rw [HR0.out]; rfl, q, rfl⟩
        | succ j =>
          have ej : ((j + 1 : Nat) : Int) - 1 = (j : Int) := by omega
          rw [ej]
          obtain ⟨x, hx⟩ : ∃ x, x = l.getD j 0 := ⟨_, rfl⟩
          obtain ⟨y, hy⟩ : ∃ x, x = m.getD j 0 := ⟨_, rfl⟩
          have k1 : w.cell? ⟨b1, o1 + j, none⟩ = some (.int .u32 (x : Nat)) := by rw [hx]; exact C1.out j (by have := HN.out.1; omega)
          have k2 : w.cell? ⟨b2, o2 + j, none⟩ = some (.int .u32 (y : Nat)) := by rw [hy]; exact C2.out j (by have := HN.out.2; omega)
          have hjn : (j : Int) < (n : Int) := by omega
          have hj0 : (0 : Int) ≤ (j : Int) := by omega
          have HX := Lib.hid (And.intro hx hy)
          clear hx hy ej
          rcases Nat.lt_trichotomy x y with hlt | hlt | hlt
          · have hr : cmpN A B = -1 := by
              have := val_top l m j HD.out.1 (by have := HN.out.1; omega) (by have := HN.out.2; omega) HI.out (by rw [← HX.out.1, ← HX.out.2]; exact hlt)
              rw [HV.out.1, HV.out.2] at this
              unfold cmpN; rw [if_pos this]
            rw [HR.out] at hr
            have HR0 := Lib.hid hr
            have hlt' : (x : Int) < (y : Int) := by omega
            clear hr
            go_wp2_with fail
            go_quiet (fail)
            go_wp2_with fail
            go_ret
            exact ⟨by rw [HR0.out]; rfl, q + nq, by simp⟩
          · subst hlt
            have n1 : decide ((x : Int) < (x : Int)) = false := by simp
            have n2 : decide ((x : Int) > (x : Int)) = false := by simp
            go_wp2_with fail
            go_quiet (fail)
            go_wp2_with fail
            revert nq; intro nq1
            go_quiet (fail)
            go_wp2_with fail
            go_roundw
            case rel => exact ⟨j, q + nq1 + nq, by omega, by go_num, by simp, Lib.hid (by rw [drop_cons l j (by have := HN.out.1; omega), drop_cons m j (by have := HN.out.2; omega), HI.out, ← HX.out.1, ← HX.out.2])⟩
            case measure => simp [intOf]
          · have hr : cmpN A B = 1 := by
              have := val_top m l j HD.out.2 (by have := HN.out.2; omega) (by have := HN.out.1; omega) HI.out.symm (by rw [← HX.out.1, ← HX.out.2]; exact hlt)
              rw [HV.out.1, HV.out.2] at this
              unfold cmpN; rw [if_neg (by omega), if_pos this]
            rw [HR.out] at hr
            have HR0 := Lib.hid hr
            have n1 : decide ((x : Int) < (y : Int)) = false := by simp; omega
            have n2 : (x : Int) > (y : Int) := by omega
            clear hr
            go_wp2_with fail
            go_quiet (fail)
            go_wp2_with fail
            revert nq; intro nq1
            go_quiet (fail)
            go_wp2_with fail
            go_ret
            exact ⟨by rw [HR0.out]; rfl, q + nq1 + nq, by simp⟩
  · have hv := val_lt_len m l hno g3 hc
    rw [hva, gva] at hv
    have hr : cmpN A B = 1 := by unfold cmpN; rw [if_neg (by omega), if_pos hv]
    rw [hr]
    obtain ⟨a, ha⟩ : ∃ a, l.length = a := ⟨_, rfl⟩
    obtain ⟨b, hb⟩ : ∃ a, m.length = a := ⟨_, rfl⟩
    rw [ha] at hc ⊢
    rw [hb] at hc ⊢
    have n1 : ((a : Int) != (b : Int)) = true := by simp; omega
    have n2 : decide ((a : Int) < (b : Int)) = false := by simp; omega
    clear ha hb hv hr hva gva h4 g4 hno gno h1 g1 hl hm
    go_enter Tryd.func76, Tryd.ntmps76
    go_wp2
    go_ret
    exact ⟨rfl, 0, rfl⟩
end Go.Proofs.YtfkdaimhdjaefaaDoor.Flt

/- The document's whole numbers of any size: sum, less. -/
namespace Go.Proofs.YtfkdaimhdjaefaaDoor.Flt
open Go.RowKit

theorem val_take_step (l : List Nat) (k : Nat) : val (l.take (k + 1)) = val (l.take k) + BB ^ k * l.getD k 0 := by
  by_cases h : k < l.length
  · exact val_take_succ l k h
  · have e1 : l.take (k + 1) = l := List.take_of_length_le (by omega)
    have e2 : l.take k = l := List.take_of_length_le (by omega)
    have e3 : l.getD k 0 = 0 := by simp [List.getD, Nat.le_of_not_lt h]
    rw [e1, e2, e3]; simp

/-- What is known of a row whose address may be none. -/
def At (w : World) (ao : Option Addr) (l : List Nat) : Prop := l.length ≠ 0 → ∃ b o, ao = some ⟨b, o, none⟩ ∧ ∀ i, i < l.length → w.cell? ⟨b, o + i, none⟩ = some (.int .u32 (l.getD i 0 : Nat))

set_option maxRecDepth 100000 in
set_option maxHeartbeats 2000000 in
theorem sum_any (va vb : Value) (A B : Nat) (hA : A < BB ^ 400) (hB : B < BB ^ 400) (w : World) (h : Num w va A) (h' : Num w vb B) :
    Calls Tryd.prog 75 #[va, vb] w fun e w' => ∃ v', e = .returned v' ∧ Num w' v' (A + B) ∧ Below w.heap.size w w' := by
  obtain ⟨i0, hi, hz0, hz1, hz2⟩ := info_parts info70
  obtain ⟨l, ⟨ao, cap, rfl, h1, h2, h3, h4⟩, hno, hva⟩ := h
  obtain ⟨m, ⟨bo, bap, rfl, g1, g2, g3, g4⟩, gno, gva⟩ := h'
  have hl := norm_len l hno 400 (by rw [hva]; exact hA)
  have hm := norm_len m gno 400 (by rw [gva]; exact hB)
  obtain ⟨p, hp⟩ : ∃ a, l.length = a := ⟨_, rfl⟩
  obtain ⟨q, hq⟩ : ∃ a, m.length = a := ⟨_, rfl⟩
  rw [hp] at h1 hl ⊢
  rw [hq] at g1 hm ⊢
  have H4 : Hid (At w ao l) := Lib.hid h4
  have G4 : Hid (At w bo m) := Lib.hid g4
  have HP := Lib.hid (And.intro hp hq)
  have HD := Lib.hid (And.intro h3 g3)
  have HV := Lib.hid (And.intro hva gva)
  clear hp hq h3 g3 hva gva h4 g4 hno gno
  have hB' : BB = 4294967296 := rfl
  go_enter Tryd.func75, Tryd.ntmps75
  go_wp2_with fail
  go_loopw [5, 6, 7] (fun x c i wr => ∃ (k C : Nat) (L : List Nat), (k ≤ p ∨ k ≤ q) ∧ i = .int .i64 k ∧ c = .int .u64 C ∧ C ≤ 1 ∧ wr.ownsRow w.heap.size 96 1 x k (u32s L) ∧ Hid (L.length = k ∧ Dig L ∧ val L + BB ^ k * C = val (l.take k) + val (m.take k)) ∧ Below w.heap.size w wr) (fun _ _ i _ => p + q - (intOf i).toNat)
  case atStart => exact ⟨0, 0, [], .inl (by omega), rfl, rfl, by decide, own_empty w, Lib.hid ⟨rfl, fun y hy => by simp at hy, by simp [val]⟩, (Below.refl _ w).alloc (Nat.le_refl _) _⟩
  case round =>
    obtain ⟨k, C, L, hk, rfl, rfl, hC, hown, HI, hb⟩ := hrel
    have hsz := hb.size
    rename World => wr
    obtain ⟨x, hx⟩ : ∃ x, x = l.getD k 0 := ⟨_, rfl⟩
    obtain ⟨y, hy⟩ : ∃ x, x = m.getD k 0 := ⟨_, rfl⟩
    have hxB : x < 4294967296 := by rw [hx]; exact dig_getD l HD.out.1 k
    have hyB : y < 4294967296 := by rw [hy]; exact dig_getD m HD.out.2 k
    have hst := sum_step (val L) (val (l.take k) + val (m.take k)) C (x + y) k HI.out.2.2
    have hst2 : val (l.take k) + val (m.take k) + BB ^ k * (x + y) = val (l.take (k + 1)) + val (m.take (k + 1)) := by
      rw [val_take_step, val_take_step, ← hx, ← hy, Nat.mul_add]; omega
    rw [hst2] at hst
    have HST := Lib.hid hst
    have HX := Lib.hid (And.intro hx hy)
    obtain ⟨D, hD⟩ : ∃ D, D = (C + (x + y)) % BB := ⟨_, rfl⟩
    obtain ⟨C', hC'⟩ : ∃ D, D = (C + (x + y)) / BB := ⟨_, rfl⟩
    have hd1 : D < BB := by rw [hD]; exact Nat.mod_lt _ (by decide)
    have hd2 : C' ≤ 1 := by rw [hC']; unfold BB; omega
    have HDC := Lib.hid (And.intro hD hC')
    by_cases ha : k < p
    · obtain ⟨b1, o1, rfl, c1⟩ := H4.out (by have := HP.out.1; omega)
      have k1 : wr.cell? ⟨b1, o1 + k, none⟩ = some (.int .u32 (x : Nat)) := by
        have h := c1 k (by have := HP.out.1; omega)
        rw [hx]
        exact (hb.cell (World.block_lt_of_cell? w _ h)).trans h
      have ha' : (k : Int) < (p : Int) := by omega
      clear c1
      by_cases hbq : k < q
      · obtain ⟨b2, o2, rfl, c2⟩ := G4.out (by have := HP.out.2; omega)
        have k2 : wr.cell? ⟨b2, o2 + k, none⟩ = some (.int .u32 (y : Nat)) := by
          have h := c2 k (by have := HP.out.2; omega)
          rw [hy]
          exact (hb.cell (World.block_lt_of_cell? w _ h)).trans h
        have hb' : (k : Int) < (q : Int) := by omega
        have e1 : IntKind.u32.wrap ((C : Int) + (x : Int) + (y : Int)) = (D : Int) := by
          rw [hD, IntKind.wrap_u32]; unfold BB; omega
        have e2 : ((C : Int) + (x : Int) + (y : Int)) / 4294967296 = (C' : Int) := by rw [hC']; unfold BB; omega
        clear c2 hst hst2 hx hy hD hC'
        go_wp2_with (at_builtin; refine wpList_append_own _ rfl _ _ 88 rfl w.heap.size 96 i0 (.int .u32 0) 1 4 Tryd.underlying88 hi hz0 hz1 hz2 rfl (by decide) _ _ _ rfl (hown.alloc _) ⟨_, 0, none⟩ 1 1 [.int .u32 (D : Int)] rfl rfl (cell_one_new _ _ _) (by simp [Value.oneCell']) (by unfold maxLen; omega) (by omega) (by simp; omega) ?_; intro v1 w1 hown1 hgrow1 hx1)
        rw [u32s_snoc] at hown1
        have hb1 : Below w.heap.size w w1 := (hb.alloc hsz _).grown hgrow1 (by simp; omega) (fun j hj => (hown.lt j hj).1)
        go_roundw
        case rel =>
          refine ⟨k + 1, C', L ++ [D], by omega, by go_num, rfl, hd2, hown1, Lib.hid ⟨by simp [HI.out.1], dig_snoc L D HI.out.2.1 hd1, ?_⟩, hb1⟩
          rw [val_snoc, HI.out.1, HDC.out.1, HDC.out.2]
          exact HST.out
        case measure => simp [intOf]; omega
      · have hb' : decide ((k : Int) < (q : Int)) = false := by simp; omega
        have hy0 : y = 0 := by rw [hy]; simp [List.getD, show m.length ≤ k by have := HP.out.2; omega]
        have e1 : IntKind.u32.wrap ((C : Int) + (x : Int)) = (D : Int) := by
          rw [hD, hy0, IntKind.wrap_u32]; unfold BB; omega
        have e2 : ((C : Int) + (x : Int)) / 4294967296 = (C' : Int) := by rw [hC', hy0]; unfold BB; omega
        clear hst hst2 hx hy hD hC' hy0
        go_wp2_with (at_builtin; refine wpList_append_own _ rfl _ _ 88 rfl w.heap.size 96 i0 (.int .u32 0) 1 4 Tryd.underlying88 hi hz0 hz1 hz2 rfl (by decide) _ _ _ rfl (hown.alloc _) ⟨_, 0, none⟩ 1 1 [.int .u32 (D : Int)] rfl rfl (cell_one_new _ _ _) (by simp [Value.oneCell']) (by unfold maxLen; omega) (by omega) (by simp; omega) ?_; intro v1 w1 hown1 hgrow1 hx1)
        rw [u32s_snoc] at hown1
        have hb1 : Below w.heap.size w w1 := (hb.alloc hsz _).grown hgrow1 (by simp; omega) (fun j hj => (hown.lt j hj).1)
        go_roundw
        case rel =>
          refine ⟨k + 1, C', L ++ [D], by omega, by go_num, rfl, hd2, hown1, Lib.hid ⟨by simp [HI.out.1], dig_snoc L D HI.out.2.1 hd1, ?_⟩, hb1⟩
          rw [val_snoc, HI.out.1, HDC.out.1, HDC.out.2]
          exact HST.out
        case measure => simp [intOf]; omega
    · have ha' : decide ((k : Int) < (p : Int)) = false := by simp; omega
      have hx0 : x = 0 := by rw [hx]; simp [List.getD, show l.length ≤ k by have := HP.out.1; omega]
      by_cases hbq : k < q
      · obtain ⟨b2, o2, rfl, c2⟩ := G4.out (by have := HP.out.2; omega)
        have k2 : wr.cell? ⟨b2, o2 + k, none⟩ = some (.int .u32 (y : Nat)) := by
          have h := c2 k (by have := HP.out.2; omega)
          rw [hy]
          exact (hb.cell (World.block_lt_of_cell? w _ h)).trans h
        have hb' : (k : Int) < (q : Int) := by omega
        have e1 : IntKind.u32.wrap ((C : Int) + (y : Int)) = (D : Int) := by
          rw [hD, hx0, IntKind.wrap_u32]; unfold BB; omega
        have e2 : ((C : Int) + (y : Int)) / 4294967296 = (C' : Int) := by rw [hC', hx0]; unfold BB; omega
        clear c2 hst hst2 hx hy hD hC' hx0
        go_wp2_with (at_builtin; refine wpList_append_own _ rfl _ _ 88 rfl w.heap.size 96 i0 (.int .u32 0) 1 4 Tryd.underlying88 hi hz0 hz1 hz2 rfl (by decide) _ _ _ rfl (hown.alloc _) ⟨_, 0, none⟩ 1 1 [.int .u32 (D : Int)] rfl rfl (cell_one_new _ _ _) (by simp [Value.oneCell']) (by unfold maxLen; omega) (by omega) (by simp; omega) ?_; intro v1 w1 hown1 hgrow1 hx1)
        rw [u32s_snoc] at hown1
        have hb1 : Below w.heap.size w w1 := (hb.alloc hsz _).grown hgrow1 (by simp; omega) (fun j hj => (hown.lt j hj).1)
        go_roundw
        case rel =>
          refine ⟨k + 1, C', L ++ [D], by omega, by go_num, rfl, hd2, hown1, Lib.hid ⟨by simp [HI.out.1], dig_snoc L D HI.out.2.1 hd1, ?_⟩, hb1⟩
          rw [val_snoc, HI.out.1, HDC.out.1, HDC.out.2]
          exact HST.out
        case measure => simp [intOf]; omega
      · have hb' : decide ((k : Int) < (q : Int)) = false := by simp; omega
        have e1 : IntKind.u32.wrap (C : Int) = (C : Int) := by
          rw [IntKind.wrap_u32]; omega
        have htk : val L + BB ^ k * C = A + B := by
          have := HI.out.2.2
          rw [List.take_of_length_le (by have := HP.out.1; omega), List.take_of_length_le (by have := HP.out.2; omega), HV.out.1, HV.out.2] at this
          exact this
        have HT := Lib.hid htk
        clear htk hst hst2 hx hy hD hC' hx0
        go_wp2_with (at_builtin; refine wpList_append_own _ rfl _ _ 88 rfl w.heap.size 96 i0 (.int .u32 0) 1 4 Tryd.underlying88 hi hz0 hz1 hz2 rfl (by decide) _ _ _ rfl (hown.alloc _) ⟨_, 0, none⟩ 1 1 [.int .u32 (C : Int)] rfl rfl (cell_one_new _ _ _) (by simp [Value.oneCell']) (by unfold maxLen; omega) (by omega) (by simp; omega) ?_; intro v1 w1 hown1 hgrow1 hx1)
        rw [u32s_snoc] at hown1
        have hb1 : Below w.heap.size w w1 := (hb.alloc hsz _).grown hgrow1 (by simp; omega) (fun j hj => (hown.lt j hj).1)
        refine (trim_any v1 (L ++ [C]) (by simp [HI.out.1]; omega) w1 (row_own hown1 (by simp [HI.out.1]) (dig_snoc L C HI.out.2.1 (by unfold BB; omega)))).mono ?_
        rintro e w2 ⟨v', l', rfl, rfl, r1, r2, r3⟩
        go_wp2
        go_ret
        exact ⟨v', rfl, ⟨l', r1, r3, by rw [r2, val_snoc, HI.out.1]; exact HT.out⟩, hb1⟩
end Go.Proofs.YtfkdaimhdjaefaaDoor.Flt

/- The document's whole numbers of any size: less. -/
namespace Go.Proofs.YtfkdaimhdjaefaaDoor.Flt
open Go.RowKit

set_option maxRecDepth 100000 in
set_option maxHeartbeats 2000000 in
theorem less_any (va vb : Value) (A B : Nat) (hA : A < BB ^ 400) (hAB : B ≤ A) (w : World) (h : Num w va A) (h' : Num w vb B) :
    Calls Tryd.prog 77 #[va, vb] w fun e w' => ∃ v', e = .returned v' ∧ Num w' v' (A - B) ∧ Below w.heap.size w w' := by
  obtain ⟨i0, hi, hz0, hz1, hz2⟩ := info_parts info70
  obtain ⟨l, ⟨ao, cap, rfl, h1, h2, h3, h4⟩, hno, hva⟩ := h
  obtain ⟨m, ⟨bo, bap, rfl, g1, g2, g3, g4⟩, gno, gva⟩ := h'
  have hl := norm_len l hno 400 (by rw [hva]; exact hA)
  have hm : m.length ≤ l.length := norm_len m gno _ (by
    have := val_lt l h3
    omega)
  obtain ⟨p, hp⟩ : ∃ a, l.length = a := ⟨_, rfl⟩
  obtain ⟨q, hq⟩ : ∃ a, m.length = a := ⟨_, rfl⟩
  rw [hp] at h1 hl hm ⊢
  rw [hq] at g1 hm ⊢
  have H4 : Hid (At w ao l) := Lib.hid h4
  have G4 : Hid (At w bo m) := Lib.hid g4
  have HP := Lib.hid (And.intro hp hq)
  have HD := Lib.hid (And.intro h3 g3)
  have HV := Lib.hid (And.intro hva gva)
  clear hp hq h3 g3 hva gva h4 g4 hno gno
  go_enter Tryd.func77, Tryd.ntmps77
  go_wp2_with fail
  go_loopw [5, 6, 7] (fun x c i wr => ∃ (k d : Nat) (L : List Nat), k ≤ p ∧ i = .int .i64 k ∧ c = .int .i64 (-(d : Int)) ∧ d ≤ 1 ∧ wr.ownsRow w.heap.size 96 1 x k (u32s L) ∧ Hid (L.length = k ∧ Dig L ∧ val L + val (m.take k) = val (l.take k) + BB ^ k * d) ∧ Below w.heap.size w wr) (fun _ _ i _ => p - (intOf i).toNat)
  case atStart => exact ⟨0, 0, [], by omega, rfl, rfl, by decide, own_empty w, Lib.hid ⟨rfl, fun y hy => by simp at hy, by simp [val]⟩, (Below.refl _ w).alloc (Nat.le_refl _) _⟩
  case round =>
    obtain ⟨k, d, L, hk, rfl, rfl, hC, hown, HI, hb⟩ := hrel
    have hsz := hb.size
    rename World => wr
    by_cases ha : k < p
    · obtain ⟨x, hx⟩ : ∃ x, x = l.getD k 0 := ⟨_, rfl⟩
      obtain ⟨y, hy⟩ : ∃ x, x = m.getD k 0 := ⟨_, rfl⟩
      have hxB : x < 4294967296 := by rw [hx]; exact dig_getD l HD.out.1 k
      have hyB : y < 4294967296 := by rw [hy]; exact dig_getD m HD.out.2 k
      have hst := less_step (val L) (val (l.take k)) (val (m.take k)) d x y k hC hxB hyB HI.out.2.2
      rw [hx, hy, ← val_take_step, ← val_take_step, ← hx, ← hy] at hst
      have HST := Lib.hid hst
      obtain ⟨D, hD⟩ : ∃ D, D = (x + BB - y - d) % BB := ⟨_, rfl⟩
      obtain ⟨d', hd'⟩ : ∃ D, D = if x < y + d then 1 else 0 := ⟨_, rfl⟩
      have hd1 : D < BB := by rw [hD]; exact Nat.mod_lt _ (by decide)
      have hd2 : d' ≤ 1 := by rw [hd']; split <;> omega
      have HDC := Lib.hid (And.intro hD hd')
      obtain ⟨b1, o1, rfl, c1⟩ := H4.out (by have := HP.out.1; omega)
      have k1 : wr.cell? ⟨b1, o1 + k, none⟩ = some (.int .u32 (x : Nat)) := by
        have h := c1 k (by have := HP.out.1; omega)
        rw [hx]
        exact (hb.cell (World.block_lt_of_cell? w _ h)).trans h
      have ha' : (k : Int) < (p : Int) := by omega
      clear c1
      by_cases hbq : k < q
      · obtain ⟨b2, o2, rfl, c2⟩ := G4.out (by have := HP.out.2; omega)
        have k2 : wr.cell? ⟨b2, o2 + k, none⟩ = some (.int .u32 (y : Nat)) := by
          have h := c2 k (by have := HP.out.2; omega)
          rw [hy]
          exact (hb.cell (World.block_lt_of_cell? w _ h)).trans h
        have hb' : (k : Int) < (q : Int) := by omega
        have e1 : IntKind.u32.wrap (-(d : Int) + (x : Int) - (y : Int)) = (D : Int) := by
          rw [hD, IntKind.wrap_u32]; unfold BB; omega
        have e2 : (-(d : Int) + (x : Int) - (y : Int)) / 4294967296 = -(d' : Int) := by rw [hd']; split <;> omega
        clear c2 hst hx hy hD hd'
        go_wp2_with (at_builtin; refine wpList_append_own _ rfl _ _ 88 rfl w.heap.size 96 i0 (.int .u32 0) 1 4 Tryd.underlying88 hi hz0 hz1 hz2 rfl (by decide) _ _ _ rfl (hown.alloc _) ⟨_, 0, none⟩ 1 1 [.int .u32 (D : Int)] rfl rfl (cell_one_new _ _ _) (by simp [Value.oneCell']) (by unfold maxLen; omega) (by omega) (by simp; omega) ?_; intro v1 w1 hown1 hgrow1 hx1)
        rw [u32s_snoc] at hown1
        have hb1 : Below w.heap.size w w1 := (hb.alloc hsz _).grown hgrow1 (by simp; omega) (fun j hj => (hown.lt j hj).1)
        go_roundw
        case rel =>
          refine ⟨k + 1, d', L ++ [D], by omega, by go_num, rfl, hd2, hown1, Lib.hid ⟨by simp [HI.out.1], dig_snoc L D HI.out.2.1 hd1, ?_⟩, hb1⟩
          rw [val_snoc, HI.out.1, HDC.out.1, HDC.out.2]
          exact HST.out
        case measure => simp [intOf]; omega
      · have hb' : decide ((k : Int) < (q : Int)) = false := by simp; omega
        have hy0 : y = 0 := by rw [hy]; simp [List.getD, show m.length ≤ k by have := HP.out.2; omega]
        have e1 : IntKind.u32.wrap (-(d : Int) + (x : Int)) = (D : Int) := by
          rw [hD, hy0, IntKind.wrap_u32]; unfold BB; omega
        have e2 : (-(d : Int) + (x : Int)) / 4294967296 = -(d' : Int) := by rw [hd', hy0]; split <;> omega
        clear hst hx hy hD hd' hy0
        go_wp2_with (at_builtin; refine wpList_append_own _ rfl _ _ 88 rfl w.heap.size 96 i0 (.int .u32 0) 1 4 Tryd.underlying88 hi hz0 hz1 hz2 rfl (by decide) _ _ _ rfl (hown.alloc _) ⟨_, 0, none⟩ 1 1 [.int .u32 (D : Int)] rfl rfl (cell_one_new _ _ _) (by simp [Value.oneCell']) (by unfold maxLen; omega) (by omega) (by simp; omega) ?_; intro v1 w1 hown1 hgrow1 hx1)
        rw [u32s_snoc] at hown1
        have hb1 : Below w.heap.size w w1 := (hb.alloc hsz _).grown hgrow1 (by simp; omega) (fun j hj => (hown.lt j hj).1)
        go_roundw
        case rel =>
          refine ⟨k + 1, d', L ++ [D], by omega, by go_num, rfl, hd2, hown1, Lib.hid ⟨by simp [HI.out.1], dig_snoc L D HI.out.2.1 hd1, ?_⟩, hb1⟩
          rw [val_snoc, HI.out.1, HDC.out.1, HDC.out.2]
          exact HST.out
        case measure => simp [intOf]; omega
    · have hkp : k = p := by omega
      subst hkp
      have ha' : decide ((k : Int) < (k : Int)) = false := by simp
      have hfin : val L = A - B := by
        have h := HI.out.2.2
        rw [List.take_of_length_le (show m.length ≤ k by have := HP.out.2; omega), List.take_of_length_le (show l.length ≤ k by have := HP.out.1; omega), HV.out.1, HV.out.2] at h
        have hlt := val_lt L HI.out.2.1
        rw [HI.out.1] at hlt
        have hd0 : d = 0 ∨ d = 1 := by omega
        rcases hd0 with rfl | rfl
        · omega
        · rw [Nat.mul_one] at h; omega
      have HF := Lib.hid hfin
      have hrow := row_own hown HI.out.1 HI.out.2.1
      have hT := trim_any _ L (by rw [HI.out.1]; omega) wr hrow
      clear hfin hrow
      go_wp2_with fail
      refine hT.mono ?_
      rintro e w2 ⟨v', l', rfl, rfl, r1, r2, r3⟩
      go_wp2
      go_ret
      exact ⟨v', rfl, ⟨l', r1, r3, by rw [r2]; exact HF.out⟩, hb⟩
end Go.Proofs.YtfkdaimhdjaefaaDoor.Flt

/- The document's whole numbers of any size: bits, small. -/
namespace Go.Proofs.YtfkdaimhdjaefaaDoor.Flt
open Go.RowKit

def bitsN (n : Nat) : Nat := if n = 0 then 0 else n.log2 + 1

theorem bitsN_half (t : Nat) (h : 0 < t) : bitsN t = bitsN (t / 2) + 1 := by
  unfold bitsN
  rw [if_neg (by omega)]
  by_cases h1 : t = 1
  · subst h1; decide
  · have h2 : ¬ t / 2 = 0 := by omega
    rw [if_neg h2]
    have : t.log2 = (t / 2).log2 + 1 := by
      rw [Nat.log2_def, if_pos (by omega)]
    omega

theorem bitsN_top (r k t : Nat) (hr : r < BB ^ k) (ht : t ≠ 0) : bitsN (r + BB ^ k * t) = 32 * k + bitsN t := by
  have hp := BB_pow k
  have h0 : BB ^ k * t ≠ 0 := Nat.mul_ne_zero (by omega) ht
  unfold bitsN
  rw [if_neg (by omega), if_neg ht]
  have : (r + BB ^ k * t).log2 = 32 * k + t.log2 := by
    refine (Nat.log2_eq_iff (by omega)).2 ⟨?_, ?_⟩
    · rw [pow_add', ← BB_two]
      have := Nat.mul_le_mul_left (BB ^ k) (Nat.log2_self_le ht)
      omega
    · rw [Nat.add_assoc, pow_add', ← BB_two]
      have h1 : t + 1 ≤ 2 ^ (t.log2 + 1) := Nat.lt_log2_self
      have h2 := Nat.mul_le_mul_left (BB ^ k) h1
      rw [Nat.mul_add, Nat.mul_one] at h2
      omega
  omega

set_option maxRecDepth 100000 in
theorem bits_any (v : Value) (N : Nat) (hN : N < BB ^ 400) (w : World) (h : Num w v N) :
    Calls Tryd.prog 85 #[v] w fun e w' => e = .returned (.int .i64 (bitsN N)) ∧ w' = w := by
  obtain ⟨l, ⟨ao, cap, rfl, h1, h2, h3, h4⟩, hno, hva⟩ := h
  by_cases h0 : l.length = 0
  · have hz : N = 0 := by rw [← hva]; exact (norm_zero l hno).1 h0
    subst hz
    rw [h0]
    have e : bitsN 0 = 0 := rfl
    rw [e]
    clear h4 h3 hno hva h0 h1
    go_enter Tryd.func85, Tryd.ntmps85
    go_wp2
    go_ret
    exact ⟨rfl, rfl⟩
  · have hl := norm_len l hno 400 (by rw [hva]; exact hN)
    obtain ⟨b, o, rfl, c1⟩ := h4 h0
    obtain ⟨j, hj⟩ : ∃ j, l.length = j + 1 := ⟨l.length - 1, by omega⟩
    obtain ⟨t, ht⟩ : ∃ t, t = l.getD j 0 := ⟨_, rfl⟩
    have k1 : w.cell? ⟨b, o + j, none⟩ = some (.int .u32 (t : Nat)) := by rw [ht]; exact c1 j (by omega)
    have htB : t < 4294967296 := by rw [ht]; exact dig_getD l h3 j
    have ht0 : t ≠ 0 := by
      rcases hno with h | h
      · omega
      · rw [hj, show j + 1 - 1 = j by omega, ← ht] at h; exact h
    have hb : bitsN N = 32 * j + bitsN t := by
      have e := val_take_succ l j (by omega)
      rw [← hj, List.take_length, hva, ← ht] at e
      rw [e]
      refine bitsN_top _ _ _ ?_ ht0
      have := val_lt (l.take j) (dig_take l h3 j)
      have e2 : (l.take j).length = j := by simp; omega
      rw [e2] at this; exact this
    obtain ⟨R, hR⟩ : ∃ R, bitsN N = R := ⟨_, rfl⟩
    rw [hR, hj]
    have HR := Lib.hid (hR.symm.trans hb)
    have hj2 : j < 400 := by omega
    have hne : ¬ ((j : Int) + 1 = 0) := by omega
    clear hR hb c1 h4 ht hj h1 hl h0 hva hno h3
    go_enter Tryd.func85, Tryd.ntmps85
    go_wp2_with fail
    go_loopw [3, 4] (fun c x wr => ∃ k u : Nat, c = .int .i64 k ∧ x = .int .u32 u ∧ u ≤ t ∧ wr = w ∧ k ≤ 32 * j + 32 ∧ Hid (R = k + bitsN u) ∧ Hid (k + bitsN u ≤ 32 * j + 32)) (fun _ x _ => (intOf x).toNat)
    case atStart =>
      have hbt : bitsN t ≤ 32 := by
        unfold bitsN
        rw [if_neg ht0]
        have := (Nat.log2_lt ht0).2 (show t < 2 ^ 32 by omega)
        omega
      exact ⟨32 * j, t, by simp, rfl, by omega, rfl, by omega, HR, Lib.hid (by omega)⟩
    case round =>
      obtain ⟨k, u, rfl, rfl, hu, rfl, hk, HI, HJ⟩ := hrel
      by_cases hz : u = 0
      · subst hz
        have hr : R = k := HI.out
        go_wp2_with fail
        go_ret
        exact ⟨by rw [hr]; rfl, rfl⟩
      · have hu0 : (u : Int) > 0 := by omega
        have hh := bitsN_half u (by omega)
        obtain ⟨y, hy⟩ : ∃ y, u / 2 = y := ⟨_, rfl⟩
        rw [hy] at hh
        have eu : (u : Int) / 2 = (y : Int) := by omega
        have et : (u : Int).tdiv 2 = (y : Int) := by rw [← hy]; exact Int.ofNat_tdiv u 2
        have hy2 : y ≤ u := by omega
        have hy3 : y < u := by omega
        clear hy
        have hk2 : k + 1 ≤ 32 * j + 32 := by have := HJ.out; omega
        have HH := Lib.hid hh
        clear hh
        go_wp2_with fail
        go_roundw
        case rel => exact ⟨k + 1, y, by go_num, rfl, by omega, trivial, hk2, Lib.hid (by rw [HI.out, HH.out]; omega), Lib.hid (by have := HJ.out; have := HH.out; omega)⟩
        case measure => simp [intOf]; omega

theorem or_low (y x : Nat) (hx : x < 4294967296) : (y * 4294967296) ||| x = y * 4294967296 + x := by
  have h := Nat.shiftLeft_add_eq_or_of_lt (i := 32) (show x < 2 ^ 32 by omega) y
  rw [Nat.shiftLeft_eq] at h
  exact h.symm

set_option maxRecDepth 100000 in
theorem small_any (v : Value) (N : Nat) (hN : N < 18446744073709551616) (w : World) (h : Num w v N) :
    Calls Tryd.prog 86 #[v] w fun e w' => e = .returned (.int .u64 N) ∧ w' = w := by
  obtain ⟨l, ⟨ao, cap, rfl, h1, h2, h3, h4⟩, hno, hva⟩ := h
  have hl := norm_len l hno 2 (by rw [hva]; exact hN)
  obtain ⟨p, hp⟩ : ∃ a, l.length = a := ⟨_, rfl⟩
  rw [hp] at h1 hl ⊢
  have H4 : Hid (At w ao l) := Lib.hid h4
  have HP := Lib.hid hp
  have HD := Lib.hid h3
  have HV := Lib.hid hva
  clear hp h3 hva h4 hno
  go_enter Tryd.func86, Tryd.ntmps86
  go_wp2_with fail
  go_loopw [3, 4] (fun c i wr => ∃ k y : Nat, k ≤ p ∧ i = .int .i64 ((k : Int) - 1) ∧ c = .int .u64 y ∧ wr = w ∧ Hid (y = val (l.drop k))) (fun _ i _ => (intOf i + 1).toNat)
  case atStart => exact ⟨p, 0, by omega, rfl, rfl, rfl, Lib.hid (by rw [List.drop_of_length_le (by have := HP.out; omega)]; rfl)⟩
  case round =>
    obtain ⟨k, y, hk, rfl, rfl, rfl, HI⟩ := hrel
    cases k with
    | zero =>
      have hz : decide ((((0 : Nat) : Int) - 1) ≥ 0) = false := by decide
      have hy : y = N := by rw [HI.out, List.drop_zero]; exact HV.out
      go_wp2_with fail
      go_ret
      exact ⟨by rw [hy]; rfl, rfl⟩
    | succ j =>
      have ej : ((j + 1 : Nat) : Int) - 1 = (j : Int) := by omega
      rw [ej]
      rename World => W
      obtain ⟨b1, o1, rfl, c1⟩ := H4.out (by have := HP.out; omega)
      obtain ⟨x, hx⟩ : ∃ x, x = l.getD j 0 := ⟨_, rfl⟩
      have k1 : W.cell? ⟨b1, o1 + j, none⟩ = some (.int .u32 (x : Nat)) := by rw [hx]; exact c1 j (by have := HP.out; omega)
      have hxB : x < 4294967296 := by rw [hx]; exact dig_getD l HD.out j
      have hval : val (l.drop j) = y * 4294967296 + x := by
        rw [drop_cons l j (by have := HP.out; omega), ← hx, HI.out]
        simp only [val]; unfold BB; omega
      have hyB : y < 4294967296 := by
        have e := val_drop l j (by have := HP.out; omega)
        have h1 : 1 * val (l.drop j) ≤ BB ^ j * val (l.drop j) := Nat.mul_le_mul_right _ (BB_pow j)
        rw [HV.out] at e
        omega
      obtain ⟨Z, hZ⟩ : ∃ Z, Z = y * 4294967296 + x := ⟨_, rfl⟩
      have e1 : bits .or .u64 ((y : Int) * 4294967296) (x : Int) = (Z : Int) := by
        have h := u64_or_nat (y * 4294967296) x (by omega) (by omega)
        rw [or_low y x hxB, ← hZ] at h
        rw [← h]; simp
      have hjp : (j : Int) < (p : Int) := by omega
      have hj0 : (0 : Int) ≤ (j : Int) := by omega
      have HZ := Lib.hid (hZ.trans hval.symm)
      clear c1 hx hval hZ ej
      go_wp2_with fail
      go_roundw
      case rel => exact ⟨j, Z, by omega, by go_num, rfl, trivial, HZ⟩
      case measure => simp [intOf]
end Go.Proofs.YtfkdaimhdjaefaaDoor.Flt
