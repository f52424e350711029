/- slices.SortFunc of things: the plain text of the kit's laying. -/
import Derived.Test.YthhcecllejddeaaGreatDoorGWb
import Derived.Shelf.SlSortCmp.WholeK
import Derived.Test.YthhcecllejddeaaGreatDoorProg
import Derived.RangeFuncBox
import Derived.Maps.AppendAt
import Derived.Shelf.SlSortCmp.NoneTotal
namespace Go.Proofs.YthhcecllejddeaaGreatDoor.Wheel
open Go.Shelf
def sortT_ren : Go.Shelf.Ren := ⟨fun | 6 => 222 | 15 => 247 | 14 => 246 | 28 => 270 | 29 => 271 | 20 => 262 | 21 => 263 | 22 => 264 | 23 => 265 | 24 => 266 | 25 => 267 | 26 => 268 | 27 => 269 | 46 => 291 | 47 => 292 | 48 => 293 | 49 => 294 | 50 => 295 | 57 => 298 | n => n, fun | 22 => 208 | 24 => 205 | 25 => 289 | 3 => 3 | 39 => 190 | 0 => 0 | 53 => 238 | 55 => 29 | 4 => 4 | 46 => 360 | 45 => 359 | 50 => 278 | 5 => 5 | 9 => 9 | 66 => 371 | 70 => 375 | 76 => 378 | 77 => 379 | n => n, fun | n => n⟩
theorem sortT : Go.Proofs.SlLaysF0.n6 Tryz.prog sortT_ren := {
 mixed := by kernel_rfl
 f6 := ⟨Tryz.f222.name, by decide, Tryz.func222.trans (congrArg some (by kernel_rfl))⟩
 f14 := ⟨Tryz.f246.name, by decide, Tryz.func246.trans (congrArg some (by kernel_rfl))⟩
 f15 := Tryz.func247.trans (congrArg some (by kernel_rfl))
 f20 := ⟨Tryz.f262.name, by decide, Tryz.func262.trans (congrArg some (by kernel_rfl))⟩
 f21 := ⟨Tryz.f263.name, by decide, Tryz.func263.trans (congrArg some (by kernel_rfl))⟩
 f22 := ⟨Tryz.f264.name, by decide, Tryz.func264.trans (congrArg some (by kernel_rfl))⟩
 f23 := ⟨Tryz.f265.name, by decide, Tryz.func265.trans (congrArg some (by kernel_rfl))⟩
 f24 := ⟨Tryz.f266.name, by decide, Tryz.func266.trans (congrArg some (by kernel_rfl))⟩
 f25 := ⟨Tryz.f267.name, by decide, Tryz.func267.trans (congrArg some (by kernel_rfl))⟩
 f26 := ⟨Tryz.f268.name, by decide, Tryz.func268.trans (congrArg some (by kernel_rfl))⟩
 f27 := ⟨Tryz.f269.name, by decide, Tryz.func269.trans (congrArg some (by kernel_rfl))⟩
 f28 := Tryz.func270.trans (congrArg some (by kernel_rfl))
 f29 := Tryz.func271.trans (congrArg some (by kernel_rfl))
 f46 := ⟨Tryz.f291.name, by decide, Tryz.func291.trans (congrArg some (by kernel_rfl))⟩
 f47 := Tryz.func292.trans (congrArg some (by kernel_rfl))
 f48 := Tryz.func293.trans (congrArg some (by kernel_rfl))
 f49 := ⟨Tryz.f294.name, by decide, Tryz.func294.trans (congrArg some (by kernel_rfl))⟩
 f50 := ⟨Tryz.f295.name, by decide, Tryz.func295.trans (congrArg some (by kernel_rfl))⟩
 f57 := ⟨Tryz.f298.name, by decide, Tryz.func298.trans (congrArg some (by kernel_rfl))⟩
 t0 := Tryz.underlying0
 a0 := Tryz.isAgg0
 z0 := Tryz.sizeOf0
 v0 := Tryz.zeroValue0
 t3 := Tryz.underlying3
 a3 := Tryz.isAgg3
 z3 := Tryz.sizeOf3
 v3 := Tryz.zeroValue3
 t4 := Tryz.underlying4
 a4 := Tryz.isAgg4
 z4 := Tryz.sizeOf4
 v4 := Tryz.zeroValue4
 t5 := Tryz.underlying5
 a5 := Tryz.isAgg5
 z5 := Tryz.sizeOf5
 v5 := Tryz.zeroValue5
 t9 := Tryz.underlying9
 a9 := Tryz.isAgg9
 z9 := Tryz.sizeOf9
 v9 := Tryz.zeroValue9
 t22 := Tryz.underlying208
 a22 := Tryz.isAgg208
 z22 := Tryz.sizeOf208
 v22 := Tryz.zeroValue208
 t25 := Tryz.underlying289
 a25 := Tryz.isAgg289
 z25 := Tryz.sizeOf289
 v25 := Tryz.zeroValue289
 t39 := Tryz.underlying190
 a39 := Tryz.isAgg190
 z39 := Tryz.sizeOf190
 v39 := Tryz.zeroValue190
 t45 := Tryz.underlying359
 a45 := Tryz.isAgg359
 z45 := Tryz.sizeOf359
 v45 := Tryz.zeroValue359
 t46 := Tryz.underlying360
 a46 := Tryz.isAgg360
 z46 := Tryz.sizeOf360
 v46 := Tryz.zeroValue360
 t50 := Tryz.underlying278
 a50 := Tryz.isAgg278
 z50 := Tryz.sizeOf278
 v50 := Tryz.zeroValue278
 t53 := Tryz.underlying238
 a53 := Tryz.isAgg238
 z53 := Tryz.sizeOf238
 v53 := Tryz.zeroValue238
 t55 := Tryz.underlying29
 a55 := Tryz.isAgg29
 z55 := Tryz.sizeOf29
 v55 := Tryz.zeroValue29
 t66 := Tryz.underlying371
 a66 := Tryz.isAgg371
 z66 := Tryz.sizeOf371
 v66 := Tryz.zeroValue371
 t70 := Tryz.underlying375
 a70 := Tryz.isAgg375
 z70 := Tryz.sizeOf375
 v70 := Tryz.zeroValue375
 t76 := Tryz.underlying378
 a76 := Tryz.isAgg378
 z76 := Tryz.sizeOf378
 v76 := Tryz.zeroValue378
 t77 := Tryz.underlying379
 a77 := Tryz.isAgg379
 z77 := Tryz.sizeOf379
 v77 := Tryz.zeroValue379 }
end Go.Proofs.YthhcecllejddeaaGreatDoor.Wheel

namespace Go.Proofs.YthhcecllejddeaaGreatDoor.Wheel
open Go.RowKit Go.Sort Go.Shelf Go.Maps
attribute [local go_sem] Oper.semAt_some
def encT (t : Th) : Array Value := #[.agg #[.int .i64 t.1, .int .i64 t.2]]
theorem values_any {b : Nat} {w : World} : Calls Tryz.prog 178 #[.map (some b)] w fun e w' => e = .returned (.func (.func 223) #[] #[.pointer (some ⟨w.heap.size, 0, none⟩)]) ∧ w' = w.alloc (.cells #[.map (some b)] 207) := by
 go_enter Tryz.func178, Tryz.ntmps178
 go_wp2
 go_ret
 exact ⟨rfl, rfl⟩
structure Came (D : DataW Unit) (L : List Th) (left : Lit → Bool) (xs : List Th) : Prop where
 sub : ∀ kl, left kl = true → Maps.has D kl = true
 iff : ∀ t ∈ L, left (.int .i64 t.2) = true ↔ t ∉ xs
 mem : ∀ t ∈ xs, t ∈ L
 nod : xs.Nodup
theorem Came.start {D : DataW Unit} {L : List Th} (hM : MapOf thD D L) : Came D L (Maps.has D) [] :=
 ⟨fun _ h => h, fun t ht => ⟨fun _ => List.not_mem_nil, fun _ => by rw [hM.has]; exact isSet_iff.2 ⟨t, ht, rfl⟩⟩, fun _ h => absurd h List.not_mem_nil, List.nodup_nil⟩
theorem same_int (x y : Int) : (Lit.int .i64 x).sameKey (.int .i64 y) = (x == y) := by
 by_cases h : x = y
 ·subst h
  rw [WideAt.sameKey_self (a := .int .i64 x) trivial]
  simp
 ·rw [sameKey_ne (by simpa using h)]
  simp [h]
theorem Came.step {D : DataW Unit} {L : List Th} {left : Lit → Bool} {xs : List Th} (h : Came D L left xs) (hM : MapOf thD D L) (hG : GoodW L) {x : Int} {c : Th} (hl : left (.int .i64 x) = true) (hat : ∀ zd, D.atKey (.int .i64 x) zd = thD c) : Came D L (fun z => left z && !z.sameKey (.int .i64 x)) (xs ++ [c]) := by
 have hs := h.sub _ hl
 rw [hM.has] at hs
 obtain ⟨t, ht, e⟩ := isSet_iff.1 hs
 have h1 := hM.at' t ht .nil
 rw [e, hat] at h1
 obtain rfl := thD_inj h1
 subst e
 have hnx : c ∉ xs := (h.iff c ht).1 hl
 refine ⟨fun kl hk => h.sub kl (by simp at hk; exact hk.1), fun t ht' => ?_, fun t ht' => ?_, ?_⟩
 ·simp only [Bool.and_eq_true, Bool.not_eq_true', same_int, beq_eq_false_iff_ne, List.mem_append, List.mem_singleton, not_or]
  rw [h.iff t ht']
  constructor
  ·rintro ⟨h2, h3⟩
   exact ⟨h2, fun e => h3 (by rw [e])⟩
  ·rintro ⟨h2, h3⟩
   exact ⟨h2, fun e => h3 (hG.uniq ht' ht e)⟩
 ·rcases List.mem_append.1 ht' with h2 | h2
  ·exact h.mem t h2
  ·simp at h2; subst h2; exact ht
 ·rw [List.nodup_append]
  exact ⟨h.nod, by simp, fun a ha b hb => by simp at hb; subst hb; exact fun e => hnx (e ▸ ha)⟩
theorem nodup_len {L xs : List Th} (hx : xs.Nodup) (hL : L.Nodup) (h : ∀ t, t ∈ xs ↔ t ∈ L) : xs.length = L.length :=
 Nat.le_antisymm (hx.length_le_of_subset (fun t ht => (h t).1 ht)) (hL.length_le_of_subset (fun t ht => (h t).2 ht))
theorem GoodW.nodup {L : List Th} (h : GoodW L) : L.Nodup := h.nod.imp (fun h e => h (by rw [e]))
def AllOf (L : List Th) (xs : List Th) : Prop := xs.length = L.length ∧ ∀ t, t ∈ xs ↔ t ∈ L
theorem Came.all {D : DataW Unit} {L : List Th} {left : Lit → Bool} {xs : List Th} (h : Came D L left xs) (hG : GoodW L) (h0 : ∀ kl, left kl = false) : AllOf L xs := by
 have hm : ∀ t, t ∈ xs ↔ t ∈ L := fun t => ⟨h.mem t, fun ht => by
  by_cases hx : t ∈ xs
  ·exact hx
  ·have := (h.iff t ht).2 hx
   rw [h0] at this
   cases this⟩
 exact ⟨nodup_len h.nod hG.nodup hm, hm⟩
set_option maxRecDepth 100000 in
set_option maxHeartbeats 2000000 in
theorem values1_stops {Bm b : Nat} {D : DataW Unit} {L : List Th} {w : World} (m : Nat) (hm : 1 ≤ m) (hBm : Bm < w.heap.size) (hc : w.cell? ⟨Bm, 0, none⟩ = some (.map (some b))) (hown : w.ownsMap Tryz.prog 3 thElem b L.length D) (hM : MapOf thD D L) (hG : GoodW L) :
  SeqStopsK Fence.wide m Tryz.prog 223 #[.pointer (some ⟨Bm, 0, none⟩)] encT KeepsWalks (AllOf L) (fun _ => True) L.length w := fun l J Jx W hW hJ hJx hY h0 => by
 have hcW : W.cell? ⟨Bm, 0, none⟩ = some (.map (some b)) := (hW.cell (p := ⟨Bm, 0, none⟩) hBm).trans hc
 have hownW : W.ownsMap Tryz.prog 3 thElem b L.length D := by
  have hbl := hown.lt
  obtain ⟨es, clock, hb, Ft, hs, hD⟩ := hown
  exact ⟨es, clock, (hW.block b hbl).trans hb, Ft, hs, hD⟩
 clear hW hc hown hJx
 refine callsIn_of_wp Tryz.func223 rfl trivial ?_ rfl
 simp only [Tryz.ntmps223, List.size_toArray, List.length_cons, List.length_nil, Nat.reduceAdd, Nat.reduceSub, Array.replicate_succ, Array.replicate_zero, List.push_toArray, List.append_toArray, List.nil_append, List.cons_append]
 gi_wp2_with (first
  | (gi_at_range; refine wpListIn_range_own _ rfl _ 207 rfl 3 205 lawInt Tryz.underlying207 _ b L.length _ rfl hownW ?_; intro w0 hrg0 hg0 hs0)
  | gi_in)
 go_frame
 gi_loopw [4] (fun _ wr => ∃ (left : Lit → Bool) (cnt : Nat) (xs : List Th), wr.ranges Tryz.prog 3 thElem b W.heap.size L.length D left cnt ∧ Hid (xs.length + cnt ≤ L.length ∧ Came D L left xs ∧ J xs wr))
  (fun _ wr => wr.rangeLeft b W.heap.size)
 case atStart =>
  exact ⟨_, _, [], hrg0, hd ⟨by simp [hM.size], Came.start hM, hJ [] W w0 none h0 hg0 (fun r e => by cases e)⟩⟩
 case round =>
  obtain ⟨left, cnt, xs, hrg, HH⟩ := hrel
  gi_wp2_with (first
   | (gi_at_next; refine wpListIn_next_ranges _ rfl _ rfl 3 lawInt thElem (Value.int .i64) thV (fun key kl hk => by obtain ⟨x, hx, _⟩ := Maps.keyOf_int_inv Tryz.underlying3 hk; exact ⟨x, hx⟩) (fun v y hv => by obtain ⟨c, rfl, _⟩ := thElem_inv hv; exact ⟨c, rfl⟩) b W.heap.size L.length _ _ _ rfl hrg ?_ ?_)
   | gi_in)
  ·intro hc0 hl0
   gi_wp2
   go_end0
   exact ⟨⟨_, rfl⟩, .inl ⟨xs, HH.out.2.1.all hG hl0, HH.out.2.2⟩⟩
  ·intro x c1 c2 kl yd yp w2 cnt2 hkey hlk hv hat hrg2 hlt hg2 hs2 hen
   obtain ⟨x', ex, rfl, _⟩ := Maps.keyOf_int_inv Tryz.underlying3 hkey
   obtain rfl : x = x' := by simpa using ex
   obtain ⟨c', ec, ez⟩ := thElem_inv hv
   obtain rfl := thV_inj ec
   obtain ⟨rfl, -⟩ := Prod.mk.inj ez
   have hJ2 : J xs w2 := hJ xs wr w2 (some W.heap.size) HH.out.2.2 hg2 (fun r e => by cases e; exact ⟨Nat.le_refl _, hrg.iter_walk⟩)
   have HC2 := hd (HH.out.2.1.step hM hG hlk hat)
   have HL := hd HH.out.1
   clear hs2 hkey ec hv ez
   obtain ⟨w3, hw3⟩ : ∃ W, Hid (w2.alloc (.cells #[.int .i64 c1, .int .i64 c2] 205) = W) := ⟨_, rfl⟩
   have hJ3 : J xs w3 := by rw [← hw3.out]; exact hJ xs w2 _ none hJ2 (World.grownBy_alloc _ _ _) (fun r e => by cases e)
   have hrg3 : w3.ranges Tryz.prog 3 thElem b W.heap.size L.length D (fun z => left z && !z.sameKey (.int .i64 x)) cnt2 := by rw [← hw3.out]; exact hrg2.alloc _
   obtain ⟨fn, tmps, assign, body, hy, hR⟩ := hY xs (c1, c2) w3 hJ3 (by have := HL.out; omega)
   simp only [encT] at hy
   simp only [thV] at hen ⊢
   rw [← hw3.out] at hy hR
   clear hJ2 hat HH hJ3
   gi_wp2
   refine hR.mono ?_
   rintro e W3 (⟨rfl, hJ4, hk4⟩ | ⟨rfl, hJx4⟩)
   ·gi_wp2
    rw [← hw3.out] at hrg3
    have hrg4 := hrg3.of_walks hk4
    go_roundw
    case rel => exact ⟨_, cnt2, xs ++ [(c1, c2)], hrg4, hd ⟨by have := HL.out; simp; omega, HC2.out, hJ4⟩⟩
    case measure => rw [hrg4.left_eq, hrg.left_eq]; exact hlt
   ·gi_wp2
    refine bodyPost_ret (results_none rfl _ _ _) rfl ?_
    exact ⟨⟨_, rfl⟩, .inr ⟨xs ++ [(c1, c2)], trivial, hJx4⟩⟩
end Go.Proofs.YthhcecllejddeaaGreatDoor.Wheel

namespace Go.Proofs.YthhcecllejddeaaGreatDoor.Wheel
open Go.RowKit Go.Sort Go.Shelf Go.Maps
attribute [local go_sem] Oper.semAt_some
theorem owns_row {w : World} {base : Nat} {e : TypeId} {v : Value} {n : Nat} {xs : List Value} (h : w.ownsRow base e 2 v n xs) : ∃ a c, v = .slice a n c ∧ Row w e 2 a n c xs ∧ ∀ k, blk a = some k → base ≤ k := by
 obtain ⟨h1, ⟨rfl, rfl⟩ | ⟨g, cap, cur, rfl, h2, h3, h4, h5, h6, h7⟩⟩ := h
 ·exact ⟨none, 0, rfl, ⟨h1, Nat.le_refl _, Nat.zero_le _, .inl ⟨rfl, rfl⟩⟩, fun k hk => by cases hk⟩
 ·exact ⟨_, cap, rfl, ⟨h1, h4, h5, .inr ⟨g, cur, rfl, h3, by omega, h7⟩⟩, fun k hk => by cases hk; exact h2⟩
theorem cell_two_new (w : World) (x y : Value) (t : TypeId) : ∀ j u, [x, y][j]? = some u → (w.alloc (.cells #[x, y] t)).cell? ((⟨w.heap.size, 0, none⟩ : Addr).add j) = some u := by
 intro j u hj
 rw [addr_add, Nat.zero_add, cell_of_row _ _ _ _ _ _ (heap_alloc_new w _)]
 simpa using hj
def AxT (Bs : Nat) (sv : Value) (x : Th) (a' : Act) (W : World) : Prop :=
 ∃ g, a' = { tmps := #[.slice none 0 0, sv, .pointer (some ⟨Bs, 0, none⟩), undef, .slice none 0 0, .pointer (some ⟨g, 0, none⟩), sv, .agg #[.int .i64 x.1, .int .i64 x.2], undef, undef, undef, undef, undef], defers := [] } ∧ W.heap[g]? = some (.cells #[.int .i64 x.1, .int .i64 x.2] 205 (0, 0)) ∧ g ≠ Bs
set_option maxRecDepth 100000 in
set_option maxHeartbeats 2000000 in
theorem appendSeq_any {Bm b : Nat} {D : DataW Unit} {L : List Th} {w : World} (hBm : Bm < w.heap.size) (hc : w.cell? ⟨Bm, 0, none⟩ = some (.map (some b))) (hown : w.ownsMap Tryz.prog 3 thElem b L.length D) (hM : MapOf thD D L) (hG : GoodW L) (hL : L.length ≤ 8000000000000) :
  Calls Tryz.prog 245 #[.slice none 0 0, .func (.func 223) #[] #[.pointer (some ⟨Bm, 0, none⟩)]] w fun e w' => ∃ xs v, e = .returned v ∧ AllOf L xs ∧ w'.ownsRow w.heap.size 205 2 v xs.length (wC xs) ∧ Below w.heap.size w w' := by
 obtain ⟨i0, hi, hz0, hz1, hz2⟩ := info_parts infoT
 refine (callsIn_wide (n := 3)).1 ?_
 refine callsIn_of_wp_marks Tryz.func245 rfl trivial ?_ rfl
 simp only [Tryz.ntmps245, List.size_toArray, List.length_cons, List.length_nil, Nat.reduceAdd, Nat.reduceSub, Array.replicate_succ, Array.replicate_zero, List.push_toArray, List.append_toArray, List.nil_append, List.cons_append]
 gi_wp2
 have bO := Boxed.new w 208 (.slice none 0 0)
 have hB0 : Below w.heap.size w (w.alloc (.cells #[.slice none 0 0] 208)) := below_al w _
 have hseq := values1_stops (w := w.alloc (.cells #[.slice none 0 0] 208)) 2 (by omega) (Bm := Bm) (b := b) (D := D) (L := L) (by simp; omega) ((hB0.cell (p := ⟨Bm, 0, none⟩) hBm).trans hc) (hown.alloc _) hM hG
 refine wpIn_rangeFunc_ownH rfl (by omega) (gf := 223) (lb := #[.pointer (some ⟨Bm, 0, none⟩)]) rfl trivial (enters_of Tryz.func223 (by kernel_rfl) rfl)
  hseq walksK_t walksK_b (Below.refl _ _) (fun _ => rfl)
  (fun pre W => (∃ v, Boxed W w.heap.size 208 v ∧ W.ownsRow w.heap.size 205 2 v pre.length (wC pre) ∧ True) ∧ Below w.heap.size w W)
  (fun _ _ _ => False)
  (OwnFrom.and (Own.from (holdsRow_own w.heap.size w.heap.size 208 205 2 (fun pre : List Th => pre.length) (fun pre => wC pre) (fun _ _ => True)) _) (ownFrom_below (Nat.le_refl _) (by simp)))
  (fun _ _ _ _ _ hs _ _ => hs)
  ⟨⟨_, bO, World.ownsRow_nil _ _ _ _, trivial⟩, hB0⟩
  (AxT w.heap.size (.func (.func 223) #[] #[.pointer (some ⟨Bm, 0, none⟩)]))
  (fun x a' _ A B row hs hg hr => by
   obtain ⟨g, h1, h2, h3⟩ := hs
   exact ⟨g, h1, (hg.block g (Array.getElem?_eq_some_iff.1 h2).1 (fun e => by
    obtain ⟨_, o, ho, hc⟩ := hr g e.symm
    rw [h2] at ho; cases ho; cases hc)).trans h2, h3⟩)
  ?assign ?body ?done ?stop
 case assign =>
  rintro l pre ⟨x1, x2⟩ W K ⟨⟨v, hv, hrow, -⟩, hB⟩ hK
  simp only [encT]
  gi_wp2
  refine hK _ _ ((KeepsOthers.alloc W _).from _) (KeepsWalks.alloc W _) ⟨⟨v, hv.alloc _, hrow.alloc _, trivial⟩, hB.alloc hB.size _⟩ ⟨W.heap.size, rfl, heap_alloc_new _ _, ?_⟩
  have := hv.lt
  omega
 case body =>
  rintro l pre ⟨x1, x2⟩ a' W - - ⟨⟨v, hv, hrow, -⟩, hB⟩ ⟨g, rfl, hg, hgb⟩ hlt
  have hc0 := hv.cell
  have x0 : W.cell? ⟨g, 0, none⟩ = some (.int .i64 x1) := by rw [cell_of_row _ _ _ _ _ _ hg]; rfl
  have x1' : W.cell? ⟨g, 1, none⟩ = some (.int .i64 x2) := by rw [cell_of_row _ _ _ _ _ _ hg]; rfl
  gi_wp2_with (gi_at_builtin; refine wpListIn_append_own _ rfl _ _ 208 rfl w.heap.size 205 i0 (.agg #[.int .i64 0, .int .i64 0]) 2 16 Tryz.underlying208 hi hz0 hz1 hz2 rfl (by decide) _ _ _ rfl (hrow.alloc _) ⟨W.heap.size, 0, none⟩ 1 1 [.int .i64 x1, .int .i64 x2] rfl rfl (cell_two_new _ _ _ _) (by simp [Value.oneCell']) (by unfold maxLen; omega) (by omega) (by have := hB.size; simp; omega) ?_; intro v' w1 hown' hgrow _; obtain ⟨g', cap', rfl⟩ := ownsRow_succ hown'; obtain ⟨hv1, hv2, hr2, hk2, hb2⟩ := hv.appended (by decide) hrow hB.size (Nat.le_refl _) hown' hgrow; have hc1 := hv1.cell; have hf1 := hv1.frozen)
  refine ⟨hk2.from _, ⟨hk2.size, fun k o h hw => hk2.same k o h (Obj.not_cells_of_walk hw)⟩, ⟨_, hv2, ?_⟩, hB.trans hb2⟩
  rw [List.length_append, wC_app]
  exact hr2
 case done =>
  rintro Dd ys W hD hS ⟨⟨v, hv, hrow, -⟩, hB⟩ hK
  have hc := hv.cell
  gi_wp2
  refine ⟨by simp, .inl ⟨_, _, rfl, run_takeDeferred hK, ?_⟩⟩
  exact ⟨_, results_tmp rfl _ _ _, ys, v, rfl, hS, ownsRow_putObj hrow _ hK rfl, hB.trans (belowK_b (w := w) (Nat.le_refl _) W Dd _ _ (by simp at hD; omega) hK rfl rfl)⟩
 case stop =>
  rintro Dd c pre W _ _ h _
  exact h.elim
end Go.Proofs.YthhcecllejddeaaGreatDoor.Wheel

namespace Go.Proofs.YthhcecllejddeaaGreatDoor.Wheel
open Go.RowKit Go.Sort Go.Shelf Go.Maps
def encL (t : Th) : List Value := [.int .i64 t.1, .int .i64 t.2]
theorem ltT_of (x y : Th) : ltOf cfT x y = decide (ltT x y) := cfT_lt x y
theorem swoT : SWO (ltOf cfT) where
 irrefl x := by rw [ltT_of]; simpa using ltT_irrefl x
 trans x y z h1 h2 := by
  rw [ltT_of] at *
  simp only [decide_eq_true_eq] at *
  exact ltT_trans h1 h2
 ntrans x y z h1 h2 := by
  rw [ltT_of] at *
  simp only [decide_eq_false_iff_not] at *
  exact leT_trans h2 h1
theorem cmpLaysT (blk off size : Nat) (w : World) : CmpLays Tryz.prog 179 #[] encL 2 cfT blk off size w :=
 fun _ _ _ _ x y => compare_any x y _
theorem flat_at (d : Array Th) (i : Nat) (hi : i < d.size) : (flatK encL 2 d)[i * 2]! = .int .i64 (tAt d.toList i).1 ∧ (flatK encL 2 d)[i * 2 + 1]! = .int .i64 (tAt d.toList i).2 := by
 have e : d[i]! = tAt d.toList i := by
  unfold tAt
  rw [List.getD_eq_getElem?_getD, Array.getElem?_toList, Array.getElem!_eq_getD, Array.getD_eq_getD_getElem?]
  rfl
 constructor
 ·rw [get_flatK _ _ _ _ (by omega), show i * 2 / 2 = i by omega, show i * 2 % 2 = 0 by omega, e]
  rfl
 ·rw [get_flatK _ _ _ _ (by omega), show (i * 2 + 1) / 2 = i by omega, show (i * 2 + 1) % 2 = 1 by omega, e]
  rfl
theorem flat_get (d : Array Th) (j : Nat) (hj : j < d.size * 2) : (wC d.toList)[j]? = some (flatK encL 2 d)[j]! := by
 have h := flat_at d (j / 2) (by omega)
 have k := wC_at d.toList (j / 2) (by simp; omega)
 rcases Nat.mod_two_eq_zero_or_one j with e | e
 ·rw [show j = j / 2 * 2 by omega, h.1]
  exact k.1
 ·rw [show j = j / 2 * 2 + 1 by omega, h.2]
  exact k.2
theorem holds_row {w : World} {e : TypeId} {g n c : Nat} {d : Array Th} (h : Row w e 2 (some ⟨g, 0, none⟩) n c (wC d.toList)) : HoldsK encL 2 w g 0 d := fun j hj => by
 rw [size_flatK] at hj
 have hl := h.len
 rw [wC_len] at hl
 simp only [Array.length_toList] at hl
 obtain ⟨g', e', hc⟩ := h.cell j (by omega)
 cases e'
 refine ⟨?_, h.free (0 + j) g rfl⟩
 rw [Nat.zero_add, hc, flat_get d j hj]
 rfl
theorem row_sorted {w : World} {e : TypeId} {g n c m : Nat} {d d' : Array Th} {os : Array Obj} (h : Row w e 2 (some ⟨g, 0, none⟩) n c (wC d.toList)) (hs : d'.size = d.size) :
  Row (sortWorldK encL 2 w g 0 m d' os) e 2 (some ⟨g, 0, none⟩) n c (wC d'.toList) ∧ Mod (fun k => k = g) w (sortWorldK encL 2 w g 0 m d' os) := by
 have hH := holds_row h
 have hlt := h.lt g rfl
 have hh := holdsK_sortWorldK encL 2 w g 0 m d d' os hlt hH hs
 have hl := h.len
 rw [wC_len] at hl
 simp only [Array.length_toList] at hl
 obtain ⟨h1, h2, h3, ⟨h4, _⟩ | ⟨g', cur, h4, h5, h6, h7⟩⟩ := h
 ·cases h4
 ·cases h4
  have hg : (sortWorldK encL 2 w g 0 m d' os).heap[g]? = some (.cells (putCells id 0 (flatK encL 2 d') cur) e (0, 0)) := by
   unfold sortWorldK putRowK putRow
   rw [heap_grow_old _ _ (by simpa [mapBlock, ahead] using hlt)]
   simp [mapBlock, Array.getElem?_modify, h5, onCells]
  refine ⟨⟨by rw [wC_len]; simp; omega, h2, h3, .inr ⟨g, _, rfl, hg, by simpa [putCells] using h6, ?_⟩⟩, ?_⟩
  ·apply List.ext_getElem?
   intro j
   rw [List.getElem?_take]
   by_cases hj : j < n * 2
   ·rw [if_pos hj]
    have := (hh j (by rw [size_flatK]; omega)).1
    rw [Nat.zero_add, cell_of_row _ _ _ _ _ _ hg] at this
    rw [flat_get d' j (by omega)]
    simpa using this
   ·rw [if_neg hj, List.getElem?_eq_none (by rw [wC_len]; simp; omega)]
  ·refine ⟨rfl, rfl, rfl, by simp [sortWorldK, putRowK, putRow, mapBlock], fun k hk hn => ?_⟩
   unfold sortWorldK putRowK putRow
   rw [heap_grow_old _ _ (by simpa [mapBlock, ahead] using hk)]
   simp only [mapBlock, Array.getElem?_modify]
   rw [if_neg (fun e => hn e.symm)]
   rfl
theorem isAggT (w : World) : (isAgg 205).run Tryz.prog w = .ok true w := Tryz.isAgg205 w
theorem sizeOfT (w : World) : (Go.sizeOf 205).run Tryz.prog w = .ok 2 w := Tryz.sizeOf205 w
theorem sort_row {w : World} {g c : Nat} {xs : List Th} (h : Row w 205 2 (some ⟨g, 0, none⟩) xs.length c (wC xs)) (hn : xs.length ≤ 8000000000000) :
  Calls Tryz.prog 222 #[.slice (some ⟨g, 0, none⟩) xs.length c, .func (.func 179) #[] #[]] w fun e w' => e = .returned (.tuple #[]) ∧ ∃ ys, Row w' 205 2 (some ⟨g, 0, none⟩) xs.length c (wC ys) ∧ ys.length = xs.length ∧ (∀ x, x ∈ ys ↔ x ∈ xs) ∧ Heap (tAt ys) ys.length ∧ Mod (fun k => k = g) w w' := by
 have eg : ∀ args w, (callFunc 179 args).run Tryz.prog w = .ok (.enter 179 args) w := enters_of Tryz.func179 (by kernel_rfl) rfl
 have hcon := AnyQ.slices_SortFunc sortT 2 isAggT sizeOfT encL (fun _ => rfl) (fun x v hv => by simp [encL] at hv; rcases hv with rfl | rfl <;> rfl) cfT swoT 179 #[] g 0 c xs.toArray w eg (cmpLaysT g 0 xs.toArray.size w) (holds_row h) (h.lt g rfl) (by simp; omega)
 change Calls Tryz.prog 222 _ _ _ at hcon
 refine hcon.mono ?_
 rintro e w' ⟨rfl, d', n, os, hp, hs, rfl⟩
 have hsz : d'.size = xs.toArray.size := hp.1
 obtain ⟨r1, r2⟩ := row_sorted (m := n) (os := os) (d := xs.toArray) (d' := d') h hsz
 have hpm : d'.toList.Perm xs := by
  have := hp.2.2
  rw [Array.extract_eq_self_of_le (by rw [← hsz]; exact Nat.le_refl _), Array.extract_eq_self_of_le (Nat.le_refl _)] at this
  simpa using this
 refine ⟨rfl, d'.toList, r1, by simpa using hsz, fun x => hpm.mem_iff, Heap.sorted (fun i j hij hj => ?_), r2⟩
 have hj' : j < d'.size := by simpa using hj
 have := hs i j (Nat.zero_le _) hij (by rw [← hsz]; exact hj')
 rw [ltT_of] at this
 have e : ∀ i, i < d'.size → d'[i]! = tAt d'.toList i := fun i hi => by
  unfold tAt
  rw [List.getD_eq_getElem?_getD, Array.getElem?_toList, Array.getElem!_eq_getD, Array.getD_eq_getD_getElem?]
  rfl
 rw [e j hj', e i (by omega)] at this
 simpa using this
end Go.Proofs.YthhcecllejddeaaGreatDoor.Wheel

namespace Go.Proofs.YthhcecllejddeaaGreatDoor.Wheel
open Go.RowKit Go.Sort Go.Shelf Go.Maps
set_option maxRecDepth 100000 in
set_option maxHeartbeats 1000000 in
theorem collect_any {Bm b : Nat} {D : DataW Unit} {L : List Th} {w : World} (hBm : Bm < w.heap.size) (hc : w.cell? ⟨Bm, 0, none⟩ = some (.map (some b))) (hown : w.ownsMap Tryz.prog 3 thElem b L.length D) (hM : MapOf thD D L) (hG : GoodW L) (hL : L.length ≤ 8000000000000) :
  Calls Tryz.prog 221 #[.func (.func 223) #[] #[.pointer (some ⟨Bm, 0, none⟩)]] w fun e w' => ∃ xs a c, e = .returned (.slice a xs.length c) ∧ AllOf L xs ∧ Row w' 205 2 a xs.length c (wC xs) ∧ (∀ k, blk a = some k → w.heap.size ≤ k) ∧ Below w.heap.size w w' := by
 have h := appendSeq_any hBm hc hown hM hG hL
 clear hown hM hG hc
 go_enter Tryz.func221, Tryz.ntmps221
 go_wp2_with (first | (go_at_call 245; refine h.mono ?_; rintro e1 w1 ⟨xs, v, rfl, hA, hO, hb⟩; obtain ⟨a, c, rfl, hR, hn⟩ := owns_row hO))
 go_ret
 exact ⟨xs, a, c, rfl, hA, hR, hn, hb⟩
theorem sort_none (p : Option Addr) (c : Nat) (fv : Value) (w : World) : Calls Tryz.prog 222 #[.slice p 0 c, fv] w fun e w' => e = .returned (.tuple #[]) ∧ w' = w := by
 have h := AnyF.slices_SortFunc_none sortT p c fv w
 change Calls Tryz.prog 222 _ _ _ at h
 exact h
theorem sort_any {w : World} {a : Option Addr} {c : Nat} {xs : List Th} (h : Row w 205 2 a xs.length c (wC xs)) (hn : xs.length ≤ 8000000000000) :
  Calls Tryz.prog 222 #[.slice a xs.length c, .func (.func 179) #[] #[]] w fun e w' => e = .returned (.tuple #[]) ∧ ∃ ys, Row w' 205 2 a xs.length c (wC ys) ∧ ys.length = xs.length ∧ (∀ x, x ∈ ys ↔ x ∈ xs) ∧ Heap (tAt ys) ys.length ∧ Mod (fun k => blk a = some k) w w' := by
 by_cases h0 : xs.length = 0
 ·have hx : xs = [] := List.eq_nil_of_length_eq_zero h0
  subst hx
  refine (sort_none a c _ w).mono ?_
  rintro e w' ⟨rfl, rfl⟩
  exact ⟨rfl, [], h, rfl, fun _ => Iff.rfl, fun k h0 hk => absurd hk (Nat.not_lt_zero _), Mod.refl _ _⟩
 ·obtain ⟨g, rfl⟩ := h.head (by omega)
  refine (sort_row h hn).mono ?_
  rintro e w' ⟨rfl, ys, h1, h2, h3, h4, h5⟩
  exact ⟨rfl, ys, h1, h2, h3, h4, h5.mono (fun k _ hk => by rw [hk]; rfl)⟩
def SortedOut (w : World) (L : List Th) (e : Ending) (w' : World) : Prop :=
 ∃ ys a c, e = .returned (.slice a ys.length c) ∧ AllOf L ys ∧ Row w' 205 2 a ys.length c (wC ys) ∧ (∀ k, blk a = some k → w.heap.size ≤ k) ∧ Heap (tAt ys) ys.length ∧ Below w.heap.size w w'
set_option maxRecDepth 100000 in
set_option maxHeartbeats 1000000 in
theorem sorted_any {Bm b : Nat} {D : DataW Unit} {L : List Th} {w : World} (hBm : Bm < w.heap.size) (hc : w.cell? ⟨Bm, 0, none⟩ = some (.map (some b))) (hown : w.ownsMap Tryz.prog 3 thElem b L.length D) (hM : MapOf thD D L) (hG : GoodW L) (hL : L.length ≤ 8000000000000) :
  Calls Tryz.prog 177 #[.func (.func 223) #[] #[.pointer (some ⟨Bm, 0, none⟩)], .func (.func 179) #[] #[]] w (SortedOut w L) := by
 have h := collect_any hBm hc hown hM hG hL
 clear hown hM hG hc
 go_enter Tryz.func177, Tryz.ntmps177
 go_upto_region 2 with (first | (go_at_call 221; refine h.mono ?_; rintro e1 w1 ⟨xs, a, c, rfl, hA, hR, hn, hb⟩))
 have hs := sort_any hR (by rw [hA.1]; exact hL)
 have HE : Hid (∀ w2 ys, Row w2 205 2 a xs.length c (wC ys) → ys.length = xs.length → (∀ x, x ∈ ys ↔ x ∈ xs) → Heap (tAt ys) ys.length → Mod (fun k => blk a = some k) w1 w2 → SortedOut w L (.returned (.slice a xs.length c)) w2) := hd (fun w2 ys r1 r2 r3 r4 r5 =>
  ⟨ys, a, c, by rw [r2], ⟨by rw [r2]; exact hA.1, fun t => (r3 t).trans (hA.2 t)⟩, by rw [r2]; exact r1, hn, r4, hb.trans (r5.below hb.size (fun k _ hk => hn k hk))⟩)
 clear hA hR hn hb h
 generalize xs.length = n at *
 go_wp2_with (first | (go_at_call 222; refine hs.mono ?_; rintro e2 w2 ⟨rfl, ys, r1, r2, r3, r4, r5⟩))
 go_ret
 exact HE.out _ _ r1 r2 r3 r4 r5
end Go.Proofs.YthhcecllejddeaaGreatDoor.Wheel
