/- How a process stands, as it is told. -/
import Derived.Test.YthnjeejnnhadeaaGreatDoorGMf
namespace Go.Proofs.YthnjeejnnhadeaaGreatDoor
open Go.RowKit
structure PrT where
 x : PrS
 la : Option Addr
 lc : Nat
 ls : List Lane.TLn
instance : Inhabited PrT := ⟨⟨default, none, 0, []⟩⟩
def prL (t : PrT) : List Value := [.int .i64 t.x.st, .int .i64 t.x.core.pc, .int .i64 (t.x.core.r 0), .int .i64 (t.x.core.r 1), .int .i64 (t.x.core.r 2), .int .i64 (t.x.core.r 3), .int .i64 (t.x.core.r 4), .int .i64 (t.x.core.r 5), .int .i64 (t.x.core.r 6), .int .i64 (t.x.core.r 7),
 .int .i64 (t.x.lc : Int), .int .i64 t.x.timer, .bool t.x.fired, .int .i64 t.x.wake, .slice t.la t.x.ss.length t.lc]
def prV (t : PrT) : Value := .agg (prL t).toArray
structure PrTAt (B : Nat) (w : World) (t : PrT) (F : Nat → Prop) : Prop where
 row : Row w 150 4 t.la t.ls.length t.lc (Lane.tlC t.ls)
 at' : Lane.TlAt B w t.ls
 tells : Lane.Tells t.ls t.x.ss
 ge : ∀ k, F k → B ≤ k
 lt : ∀ k, F k → k < w.heap.size
 fa : ∀ k, blk t.la = some k → F k
 ft : ∀ i, i < t.ls.length → ∀ k, Lane.tb (Lane.tAt t.ls i) k → F k
 ap : ∀ k, blk t.la = some k → ∀ i, i < t.ls.length → ¬ Lane.tb (Lane.tAt t.ls i) k
theorem PrTAt.mod {B : Nat} {w w' : World} {t : PrT} {F S : Nat → Prop} (h : PrTAt B w t F) (hm : Mod S w w') (hn : ∀ k, F k → ¬ S k) : PrTAt B w' t F :=
 ⟨h.row.mod hm (fun k hk => hn k (h.fa k hk)), h.at'.mod hm (fun i hi k hk => hn k (h.ft i hi k hk)), h.tells, h.ge, fun k hk => Nat.lt_of_lt_of_le (h.lt k hk) hm.size, h.fa, h.ft, h.ap⟩
theorem PrTAt.below {B : Nat} {w w' : World} {t : PrT} {F : Nat → Prop} (h : PrTAt B w t F) (hb : Below w.heap.size w w') : PrTAt B w' t F := h.mod (Mod.of_below (fun _ => False) hb) (fun _ _ h => h)
def PrOut (w : World) (x : PrS) (E : Ending) (w' : World) : Prop := ∃ t F, E = .returned (prV t) ∧ t.x = x ∧ PrTAt w.heap.size w' t F ∧ Below w.heap.size w w'
theorem ff_set (v0 v1 v2 v3 v4 v5 v6 v7 v8 v9 v10 v11 v12 v13 v14 u0 u1 u2 u3 u4 u5 u6 u7 u8 u9 u10 u11 u12 u13 u14 : Value) : (((((((((((((((#[v0, v1, v2, v3, v4, v5, v6, v7, v8, v9, v10, v11, v12, v13, v14].setIfInBounds 0 u0).setIfInBounds 1 u1).setIfInBounds 2 u2).setIfInBounds 3 u3).setIfInBounds 4 u4).setIfInBounds 5 u5).setIfInBounds 6 u6).setIfInBounds 7 u7).setIfInBounds 8 u8).setIfInBounds 9 u9).setIfInBounds 10 u10).setIfInBounds 11 u11).setIfInBounds 12 u12).setIfInBounds 13 u13).setIfInBounds 14 u14) = #[u0, u1, u2, u3, u4, u5, u6, u7, u8, u9, u10, u11, u12, u13, u14] := by simp
theorem ff_cells {W : World} {g : Nat} {T : TypeId} {v0 v1 v2 v3 v4 v5 v6 v7 v8 v9 v10 v11 v12 v13 v14 : Value} (h : W.heap[g]? = some (.cells #[v0, v1, v2, v3, v4, v5, v6, v7, v8, v9, v10, v11, v12, v13, v14] T (0, 0))) (u0 u1 u2 u3 u4 u5 u6 u7 u8 u9 u10 u11 u12 u13 u14 : Value) : (((((((((((((((W.setCell ⟨g, 0, none⟩ u0).setCell ⟨g, 1, none⟩ u1).setCell ⟨g, 2, none⟩ u2).setCell ⟨g, 3, none⟩ u3).setCell ⟨g, 4, none⟩ u4).setCell ⟨g, 5, none⟩ u5).setCell ⟨g, 6, none⟩ u6).setCell ⟨g, 7, none⟩ u7).setCell ⟨g, 8, none⟩ u8).setCell ⟨g, 9, none⟩ u9).setCell ⟨g, 10, none⟩ u10).setCell ⟨g, 11, none⟩ u11).setCell ⟨g, 12, none⟩ u12).setCell ⟨g, 13, none⟩ u13).setCell ⟨g, 14, none⟩ u14).heap[g]? = some (.cells #[u0, u1, u2, u3, u4, u5, u6, u7, u8, u9, u10, u11, u12, u13, u14] T (0, 0)) := by
 rw [heap_setCell_self (heap_setCell_self (heap_setCell_self (heap_setCell_self (heap_setCell_self (heap_setCell_self (heap_setCell_self (heap_setCell_self (heap_setCell_self (heap_setCell_self (heap_setCell_self (heap_setCell_self (heap_setCell_self (heap_setCell_self (heap_setCell_self h u0) u1) u2) u3) u4) u5) u6) u7) u8) u9) u10) u11) u12) u13) u14, ff_set]
theorem ff_mod (W : World) (g : Nat) (u0 u1 u2 u3 u4 u5 u6 u7 u8 u9 u10 u11 u12 u13 u14 : Value) : Mod (fun k => k = g) W (((((((((((((((W.setCell ⟨g, 0, none⟩ u0).setCell ⟨g, 1, none⟩ u1).setCell ⟨g, 2, none⟩ u2).setCell ⟨g, 3, none⟩ u3).setCell ⟨g, 4, none⟩ u4).setCell ⟨g, 5, none⟩ u5).setCell ⟨g, 6, none⟩ u6).setCell ⟨g, 7, none⟩ u7).setCell ⟨g, 8, none⟩ u8).setCell ⟨g, 9, none⟩ u9).setCell ⟨g, 10, none⟩ u10).setCell ⟨g, 11, none⟩ u11).setCell ⟨g, 12, none⟩ u12).setCell ⟨g, 13, none⟩ u13).setCell ⟨g, 14, none⟩ u14) := (mod_sets (mod_sets (mod_sets (mod_sets (mod_sets (mod_sets (mod_sets (mod_sets (mod_sets (mod_sets (mod_sets (mod_sets (mod_sets (mod_sets (mod_set _ _ _ _) _ _) _ _) _ _) _ _) _ _) _ _) _ _) _ _) _ _) _ _) _ _) _ _) _ _) _ _)
theorem wok_due {c : Cfg} {m : MS} {i p : Nat} {L : List Wheel.Th} (h : WOk c m i L) (hg : Wheel.GoodW L) (hp : p ∈ ofL c i) (h0 : 0 ≤ (prOf m p).timer) (h1 : 0 ≤ (prOf m p).wake) : (Wheel.dueA (2 * (p : Int)) L).1 = (prOf m p).timer ∧ (Wheel.dueA (2 * (p : Int) + 1) L).1 = (prOf m p).wake := by
 constructor
 ·by_cases e : 0 < (prOf m p).timer
  ·have := Wheel.dueA_some hg ((h _).2 ⟨p, hp, .inl ⟨rfl, e⟩⟩)
   simp only at this
   rw [this]
  ·rw [Wheel.dueA_none]
   ·simp only; omega
   ·rw [Bool.eq_false_iff]
    intro hs
    obtain ⟨t, ht, e2⟩ := Wheel.isSet_iff.1 hs
    obtain ⟨q, hq, ⟨rfl, h3⟩ | ⟨rfl, h3⟩⟩ := (h t).1 ht
    ·have : q = p := by simp only at e2; omega
     subst this
     exact e h3
    ·simp only at e2; omega
 ·by_cases e : 0 < (prOf m p).wake
  ·have := Wheel.dueA_some hg ((h _).2 ⟨p, hp, .inr ⟨rfl, e⟩⟩)
   simp only at this
   rw [this]
  ·rw [Wheel.dueA_none]
   ·simp only; omega
   ·rw [Bool.eq_false_iff]
    intro hs
    obtain ⟨t, ht, e2⟩ := Wheel.isSet_iff.1 hs
    obtain ⟨q, hq, ⟨rfl, h3⟩ | ⟨rfl, h3⟩⟩ := (h t).1 ht
    ·simp only at e2; omega
    ·have : q = p := by simp only at e2; omega
     subst this
     exact e h3
def z72 : Array Value := #[.int .i64 0, .int .i64 0, .int .i64 0, .int .i64 0, .int .i64 0, .int .i64 0, .int .i64 0, .int .i64 0, .int .i64 0, .int .i64 0, .int .i64 0, .int .i64 0, .bool false, .int .i64 0, .slice none 0 0]
structure PrI (w : World) (G : Nat) (cs : Array Value) (wy : World) : Prop where
 box : wy.heap[G]? = some (.cells cs 72 (0, 0))
 res : wy.heap[w.heap.size]? = some (.cells z72 72 (0, 0))
 bel : Below w.heap.size w wy
 gt : w.heap.size < G
theorem PrI.on {w : World} {G : Nat} {cs : Array Value} {wy w2 : World} (h : PrI w G cs wy) (hb : Below wy.heap.size wy w2) : PrI w G cs w2 :=
 ⟨by rw [hb.block _ (Array.getElem?_eq_some_iff.1 h.box).1]; exact h.box, by rw [hb.block _ (Array.getElem?_eq_some_iff.1 h.res).1]; exact h.res, h.bel.trans (hb.mono h.bel.size), h.gt⟩
theorem PrI.put {w : World} {G : Nat} {cs : Array Value} {wy : World} (h : PrI w G cs wy) (o : Nat) (u : Value) : PrI w G (cs.setIfInBounds o u) (wy.setCell ⟨G, o, none⟩ u) := by
 have hm := mod_set wy G o u
 have hg := h.gt
 refine ⟨heap_setCell_self h.box u, ?_, (h.bel.setCell (p := ⟨G, o, none⟩) (by simp only; omega) u), h.gt⟩
 rw [hm.block _ (Array.getElem?_eq_some_iff.1 h.res).1 (by omega)]
 exact h.res
section
variable {w w' : World} {l : Lay} {m : MS} {U : Nat → Prop} {p q i j : Nat}
set_option maxRecDepth 100000 in
set_option maxHeartbeats 8000000 in
theorem qstand_m (h : Mk w l U m) (hs : Shp l.c m) (hc : CfgOk l.c) (hp : p < l.c.procs.length) : Calls Tryz.prog 47 #[.pointer (some ⟨l.bq p, 0, none⟩)] w (PrOut w (prOf m p)) := by
 have hpa := hc.pa_lt hp
 have HK := hd h
 have HS := hd hs
 have HC := hd hc
 have HP := hd hp
 have HA := hd hpa
 obtain ⟨W0, hW0⟩ : ∃ W, Hid (w.alloc (.cells z72 72) = W) := ⟨_, rfl⟩
 have hb0 : Below w.heap.size w W0 := by rw [← hW0.out]; exact below_al w _
 have hW0s : Hid (W0.heap.size = w.heap.size + 1) := hd (by rw [← hW0.out]; simp)
 have hres : W0.heap[w.heap.size]? = some (.cells z72 72 (0, 0)) := by rw [← hW0.out]; exact heap_alloc_new w _
 obtain ⟨x, hx⟩ : ∃ x, Hid (prOf m p = x) := ⟨_, rfl⟩
 obtain ⟨c0, c1, c2, c3, c4, c5, c6, c7, c8, c9, c10, c11, c12, c13, c14, fr⟩ := (h.below hb0).prC hp
 have HPC : Hid (∀ ob, PrC (W0.alloc ob) l p (prOf m p)) := hd (fun ob => (h.below (hb0.alloc hb0.size ob)).prC hp)
 rw [hx.out] at HPC c3 c4 c5 c6 c7 c8 c9 c10 c11 c12 c13 ⊢
 obtain ⟨Q, hQ⟩ : ∃ Q, Hid (PrOut w x = Q) := ⟨_, rfl⟩
 rw [hQ.out]
 have HI0 : Hid (PrI w W0.heap.size #[.int .i64 x.st, .int .i64 x.core.pc, .int .i64 (x.core.r 0), .int .i64 (x.core.r 1), .int .i64 (x.core.r 2), .int .i64 (x.core.r 3), .int .i64 (x.core.r 4), .int .i64 (x.core.r 5), .int .i64 (x.core.r 6), .int .i64 (x.core.r 7), .int .i64 0, .int .i64 0, .bool x.fired, .int .i64 0, .slice none 0 0] (W0.alloc (.cells #[.int .i64 x.st, .int .i64 x.core.pc, .int .i64 (x.core.r 0), .int .i64 (x.core.r 1), .int .i64 (x.core.r 2), .int .i64 (x.core.r 3), .int .i64 (x.core.r 4), .int .i64 (x.core.r 5), .int .i64 (x.core.r 6), .int .i64 (x.core.r 7), .int .i64 0, .int .i64 0, .bool x.fired, .int .i64 0, .slice none 0 0] 72)).drew) := hd (by
  have hs0 := hW0s.out
  refine ⟨heap_alloc_new W0 _, ?_, (hb0.alloc hb0.size _).drew, by omega⟩
  exact ((below_al W0 _).block _ (by omega)).trans hres)
 clear h hs hc hp hpa
 unfold z72 at hW0
 go_enter Tryz.func47, Tryz.ntmps47
 go_upto_region 1 with fail
 rw [hW0.out]
 go_cut [3] (fun v3 wy => ∃ G, v3 = .pointer (some ⟨G, 0, none⟩) ∧ Hid (PrI w G #[.int .i64 x.st, .int .i64 x.core.pc, .int .i64 (x.core.r 0), .int .i64 (x.core.r 1), .int .i64 (x.core.r 2), .int .i64 (x.core.r 3), .int .i64 (x.core.r 4), .int .i64 (x.core.r 5), .int .i64 (x.core.r 6), .int .i64 (x.core.r 7), .int .i64 0, .int .i64 0, .bool x.fired, .int .i64 0, .slice none 0 0] wy))
 case first =>
  go_region_held3 (fun w' => w'.cell? ⟨l.bq p, 3, none⟩ = some (.int .i64 x.st) ∧ w'.cell? ⟨l.bq p, 4, none⟩ = some (.int .i64 x.core.pc) ∧ w'.cell? ⟨l.bq p, 5, none⟩ = some (.int .i64 (x.core.r 0)) ∧ w'.cell? ⟨l.bq p, 6, none⟩ = some (.int .i64 (x.core.r 1)) ∧ w'.cell? ⟨l.bq p, 7, none⟩ = some (.int .i64 (x.core.r 2)) ∧ w'.cell? ⟨l.bq p, 8, none⟩ = some (.int .i64 (x.core.r 3)) ∧ w'.cell? ⟨l.bq p, 9, none⟩ = some (.int .i64 (x.core.r 4)) ∧ w'.cell? ⟨l.bq p, 10, none⟩ = some (.int .i64 (x.core.r 5)) ∧ w'.cell? ⟨l.bq p, 11, none⟩ = some (.int .i64 (x.core.r 6)) ∧ w'.cell? ⟨l.bq p, 12, none⟩ = some (.int .i64 (x.core.r 7)) ∧ w'.cell? ⟨l.bq p, 13, none⟩ = some (.bool x.fired)) (go_keep) (fail)
  go_wp2_with fail
  go_meet
  case rel => exact ⟨_, rfl, HI0⟩
 case rest =>
  obtain ⟨G, rfl, HX⟩ := hcut
  clear HI0 HPC hW0 hW0s hres c0 c1 c2 c3 c4 c5 c6 c7 c8 c9 c10 c11 c12 c13 c14 fr hb0
  have k1 := HK.out.below HX.out.bel
  have x1 := (k1.prC HP.out).c1
  have n7 := (k1.paC HA.out).2.2.2.2.2.2.1
  have htn := tnum_any k1.drew HC.out HP.out
  obtain ⟨F, L, hW, hL, -, -⟩ := k1.drew.whl HA.out
  have hfi := (HS.out.tim p HP.out)
  have hdue := wok_due hL hW.good (HC.out.mem HP.out) hfi.1.1 hfi.2.1
  have hp32 := HC.out.p32
  have hpp := HP.out
  have hdu := Wheel.wdue_any hW (id := 2 * (p : Int)) ⟨by omega, by omega⟩
  rw [hdue.1, hx.out] at hdu
  generalize (Wheel.dueA (2 * (p : Int)) L).2 = q2 at *
  have HON : Hid (∀ W, Below wc.drew.heap.size wc.drew W → PrI w G #[.int .i64 x.st, .int .i64 x.core.pc, .int .i64 (x.core.r 0), .int .i64 (x.core.r 1), .int .i64 (x.core.r 2), .int .i64 (x.core.r 3), .int .i64 (x.core.r 4), .int .i64 (x.core.r 5), .int .i64 (x.core.r 6), .int .i64 (x.core.r 7), .int .i64 0, .int .i64 0, .bool x.fired, .int .i64 0, .slice none 0 0] W) := hd (fun W hb => HX.out.on (bel_dr hb))
  clear k1 hW hL hdue hfi HX hpp
  go_upto_region 2 with fail
  go_cut [23] (fun v23 wy => Hid (PrI w G #[.int .i64 x.st, .int .i64 x.core.pc, .int .i64 (x.core.r 0), .int .i64 (x.core.r 1), .int .i64 (x.core.r 2), .int .i64 (x.core.r 3), .int .i64 (x.core.r 4), .int .i64 (x.core.r 5), .int .i64 (x.core.r 6), .int .i64 (x.core.r 7), .int .i64 0, .int .i64 x.timer, .bool x.fired, .int .i64 0, .slice none 0 0] wy))
  case first =>
   go_region_law (first
    | (go_simp; (with_reducible refine htn.mono ?_); rintro e w1 ⟨rfl, rfl⟩)
    | (go_simp; (with_reducible refine hdu.mono ?_); rintro e w2 ⟨rfl, b2⟩; have hI2 := HON.out w2 b2; have u11 := cell_of_row w2 G 11 _ _ _ hI2.box; have uf : ∀ j, w2.frozen? ⟨G, j, none⟩ = false := (fun j => by simp [World.frozen?, hI2.box]); have HI2 := hd (hI2.put 11 (.int .i64 x.timer)); clear hI2))
   all_goals (
    go_wp2_with fail
    go_meet
    case rel => exact HI2)
  case rest =>
   have HX := hcut
   clear hcut HON hdu htn x1 n7
   have k1 := HK.out.below HX.out.bel
   have x1 := (k1.prC HP.out).c1
   have n7 := (k1.paC HA.out).2.2.2.2.2.2.1
   have htn := snum_any k1.drew HC.out HP.out
   obtain ⟨F, L, hW, hL, -, -⟩ := k1.drew.whl HA.out
   have hfi := (HS.out.tim p HP.out)
   have hdue := wok_due hL hW.good (HC.out.mem HP.out) hfi.1.1 hfi.2.1
   have hpp := HP.out
   have hdu := Wheel.wdue_any hW (id := 2 * (p : Int) + 1) ⟨by omega, by omega⟩
   rw [hdue.2, hx.out] at hdu
   generalize (Wheel.dueA (2 * (p : Int) + 1) L).2 = q3 at *
   have HON : Hid (∀ W, Below wc.drew.heap.size wc.drew W → PrI w G #[.int .i64 x.st, .int .i64 x.core.pc, .int .i64 (x.core.r 0), .int .i64 (x.core.r 1), .int .i64 (x.core.r 2), .int .i64 (x.core.r 3), .int .i64 (x.core.r 4), .int .i64 (x.core.r 5), .int .i64 (x.core.r 6), .int .i64 (x.core.r 7), .int .i64 0, .int .i64 x.timer, .bool x.fired, .int .i64 0, .slice none 0 0] W) := hd (fun W hb => HX.out.on (bel_dr hb))
   clear k1 hW hL hdue hfi HX hpp
   go_upto_region 3 with fail
   go_cut [37] (fun v37 wy => Hid (PrI w G #[.int .i64 x.st, .int .i64 x.core.pc, .int .i64 (x.core.r 0), .int .i64 (x.core.r 1), .int .i64 (x.core.r 2), .int .i64 (x.core.r 3), .int .i64 (x.core.r 4), .int .i64 (x.core.r 5), .int .i64 (x.core.r 6), .int .i64 (x.core.r 7), .int .i64 0, .int .i64 x.timer, .bool x.fired, .int .i64 x.wake, .slice none 0 0] wy))
   case first =>
    go_region_law (first
     | (go_simp; (with_reducible refine htn.mono ?_); rintro e w1 ⟨rfl, rfl⟩)
     | (go_simp; (with_reducible refine hdu.mono ?_); rintro e w2 ⟨rfl, b2⟩; have hI2 := HON.out w2 b2; have u13 := cell_of_row w2 G 13 _ _ _ hI2.box; have uf : ∀ j, w2.frozen? ⟨G, j, none⟩ = false := (fun j => by simp [World.frozen?, hI2.box]); have HI2 := hd (hI2.put 13 (.int .i64 x.wake)); clear hI2))
    all_goals (
     go_wp2_with fail
     go_meet
     case rel => exact HI2)
   case rest =>
    have HX := hcut
    clear hcut HON hdu htn x1 n7
    have k1 := HK.out.below HX.out.bel
    have x14 := (k1.prC HP.out).c14
    obtain ⟨F, hF, -⟩ := k1.pst HP.out
    have hst := Lane.pstate_any hF (HS.out.ls HP.out).good (Nat.le_trans ((HS.out.ls HP.out).tot HC.out) (by decide))
    rw [hx.out] at hst
    have HON : Hid (∀ W, Below wc.heap.size wc W → PrI w G #[.int .i64 x.st, .int .i64 x.core.pc, .int .i64 (x.core.r 0), .int .i64 (x.core.r 1), .int .i64 (x.core.r 2), .int .i64 (x.core.r 3), .int .i64 (x.core.r 4), .int .i64 (x.core.r 5), .int .i64 (x.core.r 6), .int .i64 (x.core.r 7), .int .i64 0, .int .i64 x.timer, .bool x.fired, .int .i64 x.wake, .slice none 0 0] W) := hd (fun W hb => HX.out.on hb)
    have hcw : Hid (Below w.heap.size w wc) := hd HX.out.bel
    have hGl := hd (Array.getElem?_eq_some_iff.1 HX.out.box).1
    clear k1 hF HX
    go_upto_region 5 with (go_at_call 99; refine hst.mono ?_; rintro e w2 ⟨la, lc, ls, rfl, hT, hTe⟩; have hI2 := HON.out w2 hT.bel; have u10 := cell_of_row w2 G 10 _ _ _ hI2.box; have u14 := cell_of_row w2 G 14 _ _ _ hI2.box; have uf : ∀ j, w2.frozen? ⟨G, j, none⟩ = false := (fun j => by simp [World.frozen?, hI2.box]); have HI2 := hd ((hI2.put 14 (.slice la x.ss.length lc)).put 10 (.int .i64 (x.lc : Int))); clear hI2; replace hT := hd hT; replace hTe := hd hTe)
    obtain ⟨V, hV⟩ : ∃ W, Hid ((w2.setCell ⟨G, 14, none⟩ (.slice la x.ss.length lc)).setCell ⟨G, 10, none⟩ (.int .i64 (x.lc : Int)) = W) := ⟨_, rfl⟩
    rw [hV.out] at HI2 ⊢
    have hmV : Mod (fun k => k = G) w2 V := by rw [← hV.out]; exact mod_sets (mod_set _ _ _ _) _ _
    have hGV : V.heap[G]? = some (.cells #[.int .i64 x.st, .int .i64 x.core.pc, .int .i64 (x.core.r 0), .int .i64 (x.core.r 1), .int .i64 (x.core.r 2), .int .i64 (x.core.r 3), .int .i64 (x.core.r 4), .int .i64 (x.core.r 5), .int .i64 (x.core.r 6), .int .i64 (x.core.r 7), .int .i64 (x.lc : Int), .int .i64 x.timer, .bool x.fired, .int .i64 x.wake, .slice la x.ss.length lc] 72 (0, 0)) := by
     have h1 := HI2.out.box
     simp only [List.setIfInBounds_toArray, List.set_cons_succ, List.set_cons_zero] at h1
     exact h1
    have hRV := HI2.out.res
    have hgt := hd HI2.out.gt
    have HO : Hid (Q (.returned (.agg #[.int .i64 x.st, .int .i64 x.core.pc, .int .i64 (x.core.r 0), .int .i64 (x.core.r 1), .int .i64 (x.core.r 2), .int .i64 (x.core.r 3), .int .i64 (x.core.r 4), .int .i64 (x.core.r 5), .int .i64 (x.core.r 6), .int .i64 (x.core.r 7), .int .i64 (x.lc : Int), .int .i64 x.timer, .bool x.fired, .int .i64 x.wake, .slice la x.ss.length lc])) (((((((((((((((V.setCell ⟨w.heap.size, 0, none⟩ (.int .i64 x.st)).setCell ⟨w.heap.size, 1, none⟩ (.int .i64 x.core.pc)).setCell ⟨w.heap.size, 2, none⟩ (.int .i64 (x.core.r 0))).setCell ⟨w.heap.size, 3, none⟩ (.int .i64 (x.core.r 1))).setCell ⟨w.heap.size, 4, none⟩ (.int .i64 (x.core.r 2))).setCell ⟨w.heap.size, 5, none⟩ (.int .i64 (x.core.r 3))).setCell ⟨w.heap.size, 6, none⟩ (.int .i64 (x.core.r 4))).setCell ⟨w.heap.size, 7, none⟩ (.int .i64 (x.core.r 5))).setCell ⟨w.heap.size, 8, none⟩ (.int .i64 (x.core.r 6))).setCell ⟨w.heap.size, 9, none⟩ (.int .i64 (x.core.r 7))).setCell ⟨w.heap.size, 10, none⟩ (.int .i64 (x.lc : Int))).setCell ⟨w.heap.size, 11, none⟩ (.int .i64 x.timer)).setCell ⟨w.heap.size, 12, none⟩ (.bool x.fired)).setCell ⟨w.heap.size, 13, none⟩ (.int .i64 x.wake)).setCell ⟨w.heap.size, 14, none⟩ (.slice la x.ss.length lc))) := hd (by
     rw [← hQ.out]
     have hm6 := ff_mod V w.heap.size (.int .i64 x.st) (.int .i64 x.core.pc) (.int .i64 (x.core.r 0)) (.int .i64 (x.core.r 1)) (.int .i64 (x.core.r 2)) (.int .i64 (x.core.r 3)) (.int .i64 (x.core.r 4)) (.int .i64 (x.core.r 5)) (.int .i64 (x.core.r 6)) (.int .i64 (x.core.r 7)) (.int .i64 (x.lc : Int)) (.int .i64 x.timer) (.bool x.fired) (.int .i64 x.wake) (.slice la x.ss.length lc)
     have hcs := hcw.out.size
     have hs2 := hT.out.bel.size
     have hG1 := hGl.out
     have hG2 := hgt.out
     have hmA : Mod (fun k => k = G ∨ k = w.heap.size) w2 _ := (hmV.mono (fun k _ e => .inl e)).trans (hm6.mono (fun k _ e => .inr e) : Mod (fun k => k = G ∨ k = w.heap.size) _ _) (fun k hk => .inl hk)
     have hlen := hTe.out.1
     have hge := hT.out.ge
     have htg := hT.out.at'.ge
     have htl := hT.out.at'.lt
     have hrl := hT.out.row.lt
     have hsz := hmA.size
     refine ⟨⟨x, la, lc, ls⟩, fun k => blk la = some k ∨ ∃ i, i < ls.length ∧ Lane.tb (Lane.tAt ls i) k, rfl, hx.out ▸ rfl, ⟨?_, ?_, hTe.out, ?_, ?_, fun k hk => .inl hk, fun i hi k hk => .inr ⟨i, hi, hk⟩, fun k hk => (hge k hk).2⟩, ?_⟩
     ·exact hT.out.row.mod hmA (fun k hk e => by have := (hge k hk).1; rcases e with e | e <;> omega)
     ·have h1 := hT.out.at'.mod hmA (fun i hi k hk e => by have := htg i hi k hk; rcases e with e | e <;> omega)
      exact ⟨h1.r1, h1.r2, h1.ne, fun i hi k hk => Nat.le_trans hcs (h1.ge i hi k hk), h1.ap⟩
     ·rintro k (hk | ⟨i, hi, hk⟩)
      ·have := (hge k hk).1; omega
      ·have := htg i hi k hk; omega
     ·rintro k (hk | ⟨i, hi, hk⟩)
      ·have := hrl k hk; omega
      ·have := htl i hi k hk; omega
     ·exact ((Mod.of_below (fun _ => False) (hcw.out.trans (hT.out.bel.mono hcs))).trans hmA (fun k hk => .inr (by rcases hk with e | e <;> omega))).below (Nat.le_refl _) (fun k _ hk => hk.elim))
    have v0 := cell_of_row V G 0 _ _ _ hGV
    have v1 := cell_of_row V G 1 _ _ _ hGV
    have v2 := cell_of_row V G 2 _ _ _ hGV
    have v3 := cell_of_row V G 3 _ _ _ hGV
    have v4 := cell_of_row V G 4 _ _ _ hGV
    have v5 := cell_of_row V G 5 _ _ _ hGV
    have v6 := cell_of_row V G 6 _ _ _ hGV
    have v7 := cell_of_row V G 7 _ _ _ hGV
    have v8 := cell_of_row V G 8 _ _ _ hGV
    have v9 := cell_of_row V G 9 _ _ _ hGV
    have v10 := cell_of_row V G 10 _ _ _ hGV
    have v11 := cell_of_row V G 11 _ _ _ hGV
    have v12 := cell_of_row V G 12 _ _ _ hGV
    have v13 := cell_of_row V G 13 _ _ _ hGV
    have v14 := cell_of_row V G 14 _ _ _ hGV
    unfold z72 at hRV
    have z0 := cell_of_row V w.heap.size 0 _ _ _ hRV
    have z1 := cell_of_row V w.heap.size 1 _ _ _ hRV
    have z2 := cell_of_row V w.heap.size 2 _ _ _ hRV
    have z3 := cell_of_row V w.heap.size 3 _ _ _ hRV
    have z4 := cell_of_row V w.heap.size 4 _ _ _ hRV
    have z5 := cell_of_row V w.heap.size 5 _ _ _ hRV
    have z6 := cell_of_row V w.heap.size 6 _ _ _ hRV
    have z7 := cell_of_row V w.heap.size 7 _ _ _ hRV
    have z8 := cell_of_row V w.heap.size 8 _ _ _ hRV
    have z9 := cell_of_row V w.heap.size 9 _ _ _ hRV
    have z10 := cell_of_row V w.heap.size 10 _ _ _ hRV
    have z11 := cell_of_row V w.heap.size 11 _ _ _ hRV
    have z12 := cell_of_row V w.heap.size 12 _ _ _ hRV
    have z13 := cell_of_row V w.heap.size 13 _ _ _ hRV
    have z14 := cell_of_row V w.heap.size 14 _ _ _ hRV
    have zf : ∀ j, V.frozen? ⟨w.heap.size, j, none⟩ = false := fun j => by simp [World.frozen?, hRV]
    have HZ6 := hd (ff_cells hRV (.int .i64 x.st) (.int .i64 x.core.pc) (.int .i64 (x.core.r 0)) (.int .i64 (x.core.r 1)) (.int .i64 (x.core.r 2)) (.int .i64 (x.core.r 3)) (.int .i64 (x.core.r 4)) (.int .i64 (x.core.r 5)) (.int .i64 (x.core.r 6)) (.int .i64 (x.core.r 7)) (.int .i64 (x.lc : Int)) (.int .i64 x.timer) (.bool x.fired) (.int .i64 x.wake) (.slice la x.ss.length lc))
    clear hV hmV hGV hRV u10 u14 uf HI2 hT hTe HON hst x14 hcw hGl hgt
    go_wp2_with fail
    refine bodyPost_ret (v := .agg #[.int .i64 x.st, .int .i64 x.core.pc, .int .i64 (x.core.r 0), .int .i64 (x.core.r 1), .int .i64 (x.core.r 2), .int .i64 (x.core.r 3), .int .i64 (x.core.r 4), .int .i64 (x.core.r 5), .int .i64 (x.core.r 6), .int .i64 (x.core.r 7), .int .i64 (x.lc : Int), .int .i64 x.timer, .bool x.fired, .int .i64 x.wake, .slice la x.ss.length lc]) ?_ rfl HO.out
    have y0 := cell_of_row _ w.heap.size 0 _ _ _ HZ6.out
    have y1 := cell_of_row _ w.heap.size 1 _ _ _ HZ6.out
    have y2 := cell_of_row _ w.heap.size 2 _ _ _ HZ6.out
    have y3 := cell_of_row _ w.heap.size 3 _ _ _ HZ6.out
    have y4 := cell_of_row _ w.heap.size 4 _ _ _ HZ6.out
    have y5 := cell_of_row _ w.heap.size 5 _ _ _ HZ6.out
    have y6 := cell_of_row _ w.heap.size 6 _ _ _ HZ6.out
    have y7 := cell_of_row _ w.heap.size 7 _ _ _ HZ6.out
    have y8 := cell_of_row _ w.heap.size 8 _ _ _ HZ6.out
    have y9 := cell_of_row _ w.heap.size 9 _ _ _ HZ6.out
    have y10 := cell_of_row _ w.heap.size 10 _ _ _ HZ6.out
    have y11 := cell_of_row _ w.heap.size 11 _ _ _ HZ6.out
    have y12 := cell_of_row _ w.heap.size 12 _ _ _ HZ6.out
    have y13 := cell_of_row _ w.heap.size 13 _ _ _ HZ6.out
    have y14 := cell_of_row _ w.heap.size 14 _ _ _ HZ6.out
    clear HO HZ6 v0 v1 v2 v3 v4 v5 v6 v7 v8 v9 v10 v11 v12 v13 v14 z0 z1 z2 z3 z4 z5 z6 z7 z8 z9 z10 z11 z12 z13 z14 zf
    generalize World.setCell _ _ _ = Wf at *
    simp at y0 y1 y2 y3 y4 y5 y6 y7 y8 y9 y10 y11 y12 y13 y14
    simp [results, Tryz.results47, go_sem, y0, y1, y2, y3, y4, y5, y6, y7, y8, y9, y10, y11, y12, y13, y14]
end
end Go.Proofs.YthnjeejnnhadeaaGreatDoor
