/- maps.Values of a wheel's map. -/
import Derived.Test.YtdpbkoohhnpjmaaWW8
namespace Go.Proofs.Ytdpbkoohhnpjmaa
open Go.RowKit Go.Sort Go.Shelf Go.Maps

attribute [local go_sem] Oper.semAt_some

def encT (t : Th) : Array Value := #[.agg #[.int .i64 t.1, .int .i64 t.2]]

theorem values_any {b : Nat} {w : World} : Calls Try.prog 28 #[.map (some b)] w fun e w' => e = .returned (.func (.func 35) #[] #[.pointer (some ⟨w.heap.size, 0, none⟩)]) ∧ w' = w.alloc (.cells #[.map (some b)] 52) := by
  go_enter Try.func28, Try.ntmps28
  go_wp2
  go_ret
  exact ⟨rfl, rfl⟩

/-- Those that came; which numbers are left. -/
structure Came (D : DataW Unit) (L : List Th) (left : Lit → Bool) (xs : List Th) : Prop where
  sub : ∀ kl, left kl = true → Maps.has D kl = true
  iff : ∀ t ∈ L, left (.int .i64 t.2) = true ↔ t ∉ xs
  mem : ∀ t ∈ xs, t ∈ L
  nod : xs.Nodup
theorem Came.start {D : DataW Unit} {L : List Th} (hM : MapOf thD D L) : Came D L (Maps.has D) [] :=
  ⟨fun _ h => h, fun t ht => ⟨fun _ => List.not_mem_nil, fun _ => by rw [hM.has]; exact isSet_iff.2 ⟨t, ht, rfl⟩⟩, fun _ h => absurd h List.not_mem_nil, List.nodup_nil⟩
theorem same_int (x y : Int) : (Lit.int .i64 x).sameKey (.int .i64 y) = (x == y) := by
  by_cases h : x = y
  · subst h
    rw [WideAt.sameKey_self (a := .int .i64 x) trivial]
    simp
  · rw [sameKey_ne (by simpa using h)]
    simp [h]
theorem Came.step {D : DataW Unit} {L : List Th} {left : Lit → Bool} {xs : List Th} (h : Came D L left xs) (hM : MapOf thD D L) (hG : GoodW L) {x : Int} {c : Th} (hl : left (.int .i64 x) = true) (hat : ∀ zd, D.atKey (.int .i64 x) zd = thD c) : Came D L (fun z => left z && !z.sameKey (.int .i64 x)) (xs ++ [c]) := by
  have hs := h.sub _ hl
  rw [hM.has] at hs
  obtain ⟨t, ht, e⟩ := isSet_iff.1 hs
  have h1 := hM.at' t ht .nil
  rw [e, hat] at h1
  obtain rfl := thD_inj h1
  subst e
  have hnx : c ∉ xs := (h.iff c ht).1 hl
  refine ⟨fun kl hk => h.sub kl (by simp at hk; exact hk.1), fun t ht' => ?_, fun t ht' => ?_, ?_⟩
  · simp only [Bool.and_eq_true, Bool.not_eq_true', same_int, beq_eq_false_iff_ne, List.mem_append, List.mem_singleton, not_or]
    rw [h.iff t ht']
    constructor
    · rintro ⟨h2, h3⟩
      exact ⟨h2, fun e => h3 (by rw [e])⟩
    · rintro ⟨h2, h3⟩
      exact ⟨h2, fun e => h3 (hG.uniq ht' ht e)⟩
  · rcases List.mem_append.1 ht' with h2 | h2
    · exact h.mem t h2
    · simp at h2; subst h2; exact ht
  · rw [List.nodup_append]
    exact ⟨h.nod, by simp, fun a ha b hb => by simp at hb; subst hb; exact fun e => hnx (e ▸ ha)⟩
theorem nodup_len {L xs : List Th} (hx : xs.Nodup) (hL : L.Nodup) (h : ∀ t, t ∈ xs ↔ t ∈ L) : xs.length = L.length :=
  Nat.le_antisymm (hx.length_le_of_subset (fun t ht => (h t).1 ht)) (hL.length_le_of_subset (fun t ht => (h t).2 ht))
theorem GoodW.nodup {L : List Th} (h : GoodW L) : L.Nodup := h.nod.imp (fun h e => h (by rw [e]))

/-- All of them, in some order. -/
def AllOf (L : List Th) (xs : List Th) : Prop := xs.length = L.length ∧ ∀ t, t ∈ xs ↔ t ∈ L
theorem Came.all {D : DataW Unit} {L : List Th} {left : Lit → Bool} {xs : List Th} (h : Came D L left xs) (hG : GoodW L) (h0 : ∀ kl, left kl = false) : AllOf L xs := by
  have hm : ∀ t, t ∈ xs ↔ t ∈ L := fun t => ⟨h.mem t, fun ht => by
    by_cases hx : t ∈ xs
    · exact hx
    · have := (h.iff t ht).2 hx
      rw [h0] at this
      cases this⟩
  exact ⟨nodup_len h.nod hG.nodup hm, hm⟩

set_option maxRecDepth 100000 in
set_option maxHeartbeats 2000000 in
theorem values1_stops {Bm b : Nat} {D : DataW Unit} {L : List Th} {w : World} (m : Nat) (hm : 1 ≤ m) (hBm : Bm < w.heap.size) (hc : w.cell? ⟨Bm, 0, none⟩ = some (.map (some b))) (hown : w.ownsMap Try.prog 3 thElem b L.length D) (hM : MapOf thD D L) (hG : GoodW L) :
    SeqStopsK Fence.wide m Try.prog 35 #[.pointer (some ⟨Bm, 0, none⟩)] encT KeepsWalks (AllOf L) (fun _ => True) L.length w := fun l J Jx W hW hJ hJx hY h0 => by
  have hcW : W.cell? ⟨Bm, 0, none⟩ = some (.map (some b)) := (hW.cell (p := ⟨Bm, 0, none⟩) hBm).trans hc
  have hownW : W.ownsMap Try.prog 3 thElem b L.length D := by
    have hbl := hown.lt
    obtain ⟨es, clock, hb, Ft, hs, hD⟩ := hown
    exact ⟨es, clock, (hW.block b hbl).trans hb, Ft, hs, hD⟩
  clear hW hc hown hJx
  refine callsIn_of_wp Try.func35 rfl trivial ?_ rfl
  simp only [Try.ntmps35, List.size_toArray, List.length_cons, List.length_nil, Nat.reduceAdd, Nat.reduceSub, Array.replicate_succ, Array.replicate_zero, List.push_toArray, List.append_toArray, List.nil_append, List.cons_append]
  gi_wp2_with (first
    | (gi_at_range; refine wpListIn_range_own _ rfl _ 52 rfl 3 60 lawInt Try.underlying52 _ b L.length _ rfl hownW ?_; intro w0 hrg0 hg0 hs0)
    | gi_in)
  go_frame
  gi_loopw [4] (fun _ wr => ∃ (left : Lit → Bool) (cnt : Nat) (xs : List Th), wr.ranges Try.prog 3 thElem b W.heap.size L.length D left cnt ∧ Hid (xs.length + cnt ≤ L.length ∧ Came D L left xs ∧ J xs wr))
    (fun _ wr => wr.rangeLeft b W.heap.size)
  case atStart =>
    exact ⟨_, _, [], hrg0, hd ⟨by simp [hM.size], Came.start hM, hJ [] W w0 none h0 hg0 (fun r e => by cases e)⟩⟩
  case round =>
    obtain ⟨left, cnt, xs, hrg, HH⟩ := hrel
    gi_wp2_with (first
      | (gi_at_next; refine wpListIn_next_ranges _ rfl _ rfl 3 lawInt thElem (Value.int .i64) thV (fun key kl hk => by obtain ⟨x, hx, _⟩ := Maps.keyOf_int_inv Try.underlying3 hk; exact ⟨x, hx⟩) (fun v y hv => by obtain ⟨c, rfl, _⟩ := thElem_inv hv; exact ⟨c, rfl⟩) b W.heap.size L.length _ _ _ rfl hrg ?_ ?_)
      | gi_in)
    · intro hc0 hl0
      gi_wp2
      go_end0
      exact ⟨⟨_, rfl⟩, .inl ⟨xs, HH.out.2.1.all hG hl0, HH.out.2.2⟩⟩
    · intro x c1 c2 kl yd yp w2 cnt2 hkey hlk hv hat hrg2 hlt hg2 hs2 hen
      obtain ⟨x', ex, rfl, _⟩ := Maps.keyOf_int_inv Try.underlying3 hkey
      obtain rfl : x = x' := by simpa using ex
      obtain ⟨c', ec, ez⟩ := thElem_inv hv
      obtain rfl := thV_inj ec
      obtain ⟨rfl, -⟩ := Prod.mk.inj ez
      have hJ2 : J xs w2 := hJ xs wr w2 (some W.heap.size) HH.out.2.2 hg2 (fun r e => by cases e; exact ⟨Nat.le_refl _, hrg.iter_walk⟩)
      have HC2 := hd (HH.out.2.1.step hM hG hlk hat)
      have HL := hd HH.out.1
      clear hs2 hkey ec hv ez
      obtain ⟨w3, hw3⟩ : ∃ W, Hid (w2.alloc (.cells #[.int .i64 c1, .int .i64 c2] 60) = W) := ⟨_, rfl⟩
      have hJ3 : J xs w3 := by rw [← hw3.out]; exact hJ xs w2 _ none hJ2 (World.grownBy_alloc _ _ _) (fun r e => by cases e)
      have hrg3 : w3.ranges Try.prog 3 thElem b W.heap.size L.length D (fun z => left z && !z.sameKey (.int .i64 x)) cnt2 := by rw [← hw3.out]; exact hrg2.alloc _
      obtain ⟨fn, tmps, assign, body, hy, hR⟩ := hY xs (c1, c2) w3 hJ3 (by have := HL.out; omega)
      simp only [encT] at hy
      simp only [thV] at hen ⊢
      rw [← hw3.out] at hy hR
      clear hJ2 hat HH hJ3
      gi_wp2
      refine hR.mono ?_
      rintro e W3 (⟨rfl, hJ4, hk4⟩ | ⟨rfl, hJx4⟩)
      · gi_wp2
        rw [← hw3.out] at hrg3
        have hrg4 := hrg3.of_walks hk4
        go_roundw
        case rel => exact ⟨_, cnt2, xs ++ [(c1, c2)], hrg4, hd ⟨by have := HL.out; simp; omega, HC2.out, hJ4⟩⟩
        case measure => rw [hrg4.left_eq, hrg.left_eq]; exact hlt
      · gi_wp2
        refine bodyPost_ret (results_none rfl _ _ _) rfl ?_
        exact ⟨⟨_, rfl⟩, .inr ⟨xs ++ [(c1, c2)], trivial, hJx4⟩⟩
end Go.Proofs.Ytdpbkoohhnpjmaa
