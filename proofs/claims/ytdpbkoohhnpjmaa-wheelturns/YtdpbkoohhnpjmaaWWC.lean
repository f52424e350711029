/- slices.Collect, slices.SortedFunc of a wheel's things. -/
import Derived.Test.YtdpbkoohhnpjmaaWWB
import Derived.Shelf.SlSortCmp.NoneTotal
namespace Go.Proofs.Ytdpbkoohhnpjmaa
open Go.RowKit Go.Sort Go.Shelf Go.Maps

set_option maxRecDepth 100000 in
set_option maxHeartbeats 1000000 in
theorem collect_any {Bm b : Nat} {D : DataW Unit} {L : List Th} {w : World} (hBm : Bm < w.heap.size) (hc : w.cell? ⟨Bm, 0, none⟩ = some (.map (some b))) (hown : w.ownsMap Try.prog 3 thElem b L.length D) (hM : MapOf thD D L) (hG : GoodW L) (hL : L.length ≤ 8000000000000) :
    Calls Try.prog 33 #[.func (.func 35) #[] #[.pointer (some ⟨Bm, 0, none⟩)]] w fun e w' => ∃ xs a c, e = .returned (.slice a xs.length c) ∧ AllOf L xs ∧ Row w' 60 2 a xs.length c (wC xs) ∧ (∀ k, blk a = some k → w.heap.size ≤ k) ∧ Below w.heap.size w w' := by
  have h := appendSeq_any hBm hc hown hM hG hL
  clear hown hM hG hc
  go_enter Try.func33, Try.ntmps33
  go_wp2_with (first | (go_at_call 40; refine h.mono ?_; rintro e1 w1 ⟨xs, v, rfl, hA, hO, hb⟩; obtain ⟨a, c, rfl, hR, hn⟩ := owns_row hO))
  go_ret
  exact ⟨xs, a, c, rfl, hA, hR, hn, hb⟩

/-- Nothing to sort. -/
theorem sort_none (p : Option Addr) (c : Nat) (fv : Value) (w : World) : Calls Try.prog 34 #[.slice p 0 c, fv] w fun e w' => e = .returned (.tuple #[]) ∧ w' = w := by
  have h := AnyF.slices_SortFunc_none sortT p c fv w
  change Calls Try.prog 34 _ _ _ at h
  exact h
/-- A row sorted, nil too. -/
theorem sort_any {w : World} {a : Option Addr} {c : Nat} {xs : List Th} (h : Row w 60 2 a xs.length c (wC xs)) (hn : xs.length ≤ 8000000000000) :
    Calls Try.prog 34 #[.slice a xs.length c, .func (.func 29) #[] #[]] w fun e w' => e = .returned (.tuple #[]) ∧ ∃ ys, Row w' 60 2 a xs.length c (wC ys) ∧ ys.length = xs.length ∧ (∀ x, x ∈ ys ↔ x ∈ xs) ∧ Heap (tAt ys) ys.length ∧ Mod (fun k => blk a = some k) w w' := by
  by_cases h0 : xs.length = 0
  · have hx : xs = [] := List.eq_nil_of_length_eq_zero h0
    subst hx
    refine (sort_none a c _ w).mono ?_
    rintro e w' ⟨rfl, rfl⟩
    exact ⟨rfl, [], h, rfl, fun _ => Iff.rfl, fun k h0 hk => absurd hk (Nat.not_lt_zero _), Mod.refl _ _⟩
  · obtain ⟨g, rfl⟩ := h.head (by omega)
    refine (sort_row h hn).mono ?_
    rintro e w' ⟨rfl, ys, h1, h2, h3, h4, h5⟩
    exact ⟨rfl, ys, h1, h2, h3, h4, h5.mono (fun k _ hk => by rw [hk]; rfl)⟩

/-- What SortedFunc tells. -/
def SortedOut (w : World) (L : List Th) (e : Ending) (w' : World) : Prop :=
  ∃ ys a c, e = .returned (.slice a ys.length c) ∧ AllOf L ys ∧ Row w' 60 2 a ys.length c (wC ys) ∧ (∀ k, blk a = some k → w.heap.size ≤ k) ∧ Heap (tAt ys) ys.length ∧ Below w.heap.size w w'

set_option maxRecDepth 100000 in
set_option maxHeartbeats 1000000 in
theorem sorted_any {Bm b : Nat} {D : DataW Unit} {L : List Th} {w : World} (hBm : Bm < w.heap.size) (hc : w.cell? ⟨Bm, 0, none⟩ = some (.map (some b))) (hown : w.ownsMap Try.prog 3 thElem b L.length D) (hM : MapOf thD D L) (hG : GoodW L) (hL : L.length ≤ 8000000000000) :
    Calls Try.prog 27 #[.func (.func 35) #[] #[.pointer (some ⟨Bm, 0, none⟩)], .func (.func 29) #[] #[]] w (SortedOut w L) := by
  have h := collect_any hBm hc hown hM hG hL
  clear hown hM hG hc
  go_enter Try.func27, Try.ntmps27
  go_upto_region 2 with (first | (go_at_call 33; refine h.mono ?_; rintro e1 w1 ⟨xs, a, c, rfl, hA, hR, hn, hb⟩))
  have hs := sort_any hR (by rw [hA.1]; exact hL)
  have HE : Hid (∀ w2 ys, Row w2 60 2 a xs.length c (wC ys) → ys.length = xs.length → (∀ x, x ∈ ys ↔ x ∈ xs) → Heap (tAt ys) ys.length → Mod (fun k => blk a = some k) w1 w2 → SortedOut w L (.returned (.slice a xs.length c)) w2) := hd (fun w2 ys r1 r2 r3 r4 r5 =>
    ⟨ys, a, c, by rw [r2], ⟨by rw [r2]; exact hA.1, fun t => (r3 t).trans (hA.2 t)⟩, by rw [r2]; exact r1, hn, r4, hb.trans (r5.below hb.size (fun k _ hk => hn k hk))⟩)
  clear hA hR hn hb h
  generalize xs.length = n at *
  go_wp2_with (first | (go_at_call 34; refine hs.mono ?_; rintro e2 w2 ⟨rfl, ys, r1, r2, r3, r4, r5⟩))
  go_ret
  exact HE.out _ _ r1 r2 r3 r4 r5
end Go.Proofs.Ytdpbkoohhnpjmaa
