/- An instruction that the reader takes. -/
import Derived.Test.YtmjokinagbpihaaDoorGCd
import Derived.Test.YtmjokinagbpihaaDoorQM6
namespace Go.Proofs.YtmjokinagbpihaaDoor
open Go.RowKit

theorem Byt.of_rd {w : World} {a : Option Addr} {bs : List Nat} (h : Rd w a (bCells bs)) : Byt w a bs := fun i hi => h i _ (by simp [bCells, List.getD_eq_getElem?_getD, List.getElem?_eq_getElem hi])

set_option maxRecDepth 100000 in
theorem place_13 (a : Option Addr) (n cap : Nat) (w : World) :
    Calls Tryd.prog 75 #[.slice a n cap, .int .i64 13] w fun e w' => e = .returned (.int .i64 4) ∧ Below w.heap.size w w' := by
  have B0 := hd (below_same w)
  go_enter Tryd.func75, Tryd.ntmps75
  go_wp2
  go_ret
  exact ⟨rfl, B0.out⟩

set_option maxRecDepth 100000 in
theorem place_dec (a : Option Addr) (cap : Nat) (bs : List Nat) (E : Int) (hE : E ≠ 13) (w : World) (hB : Byt w a bs) (hF : Fld w) (hb : Byte bs) (hcap : bs.length ≤ cap) :
    Calls Tryd.prog 75 #[.slice a bs.length cap, .int .i64 E] w fun e w' => e = .returned (.int .i64 (decR bs).2) ∧ Below w.heap.size w w' := by
  have d1 : (E == 13) = false := by simpa using hE
  have hdc : Calls Tryd.prog 80 #[.slice a bs.length cap] w fun e w' => ∃ v x, e = .returned (.tuple #[v, .int .i64 x, .int .i64 (decR bs).2]) ∧ Below w.heap.size w w' :=
    (decode_any a cap bs w hB hF hb hcap).mono fun e w' hp => by
      rcases hp with ⟨hr, g, cap', he, _, hbw⟩ | ⟨hr, he, hbw⟩
      · have : (decR bs).2 = 0 := (decR_place bs).2.2 hr
        exact ⟨_, _, by rw [he, this], hbw⟩
      · exact ⟨_, _, he, hbw⟩
  clear hB hF hb hE
  generalize (decR bs).2 = D at *
  go_enter Tryd.func75, Tryd.ntmps75
  go_wp2_with (go_at_call 80; refine hdc.mono ?_; rintro e w1 ⟨v, x, rfl, hbw⟩)
  go_ret
  exact ⟨rfl, hbw⟩

theorem place_any (a : Option Addr) (cap : Nat) (bs : List Nat) (E : Int) (w : World) (hB : Byt w a bs) (hF : Fld w) (hb : Byte bs) (hcap : bs.length ≤ cap) :
    Calls Tryd.prog 75 #[.slice a bs.length cap, .int .i64 E] w fun e w' => e = .returned (.int .i64 (if E = 13 then 4 else (decR bs).2)) ∧ Below w.heap.size w w' := by
  by_cases h : E = 13
  · subst h
    rw [if_pos rfl]
    exact place_13 a _ cap w
  · rw [if_neg h]
    exact place_dec a cap bs E h w hB hF hb hcap

theorem Fld.mod {w w' : World} {S : Nat → Prop} (h : Fld w) (hm : Mod S w w') (hs : ¬ S 1) : Fld w' := fun i hi => by
  have hc := h i hi
  rw [hm.cell (p := ⟨1, i, none⟩) (World.block_lt_of_cell? w _ hc) hs]
  exact hc
end Go.Proofs.YtmjokinagbpihaaDoor
