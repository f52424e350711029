/- How a process stands, as it is told. -/
import Derived.Test.YthhcecllejddeaaGreatDoorGMf
import Derived.Test.YthhcecllejddeaaGreatDoorGMh
namespace Go.Proofs.YthhcecllejddeaaGreatDoor
open Go.RowKit
structure PrT where
 x : PrS
 la : Option Addr
 lc : Nat
 ls : List Lane.TLn
instance : Inhabited PrT := ⟨⟨default, none, 0, []⟩⟩
def prL (t : PrT) : List Value := [.int .i64 t.x.st, .int .i64 t.x.core.pc, .int .i64 (t.x.core.r 0), .int .i64 (t.x.core.r 1), .int .i64 (t.x.core.r 2), .int .i64 (t.x.core.r 3), .int .i64 (t.x.core.r 4), .int .i64 (t.x.core.r 5), .int .i64 (t.x.core.r 6), .int .i64 (t.x.core.r 7),
 .int .i64 (t.x.lc : Int), .int .i64 t.x.timer, .bool t.x.fired, .int .i64 t.x.wake, .slice t.la t.x.ss.length t.lc]
def prV (t : PrT) : Value := .agg (prL t).toArray
structure PrTAt (B : Nat) (w : World) (t : PrT) (F : Nat → Prop) : Prop where
 row : Row w 219 4 t.la t.ls.length t.lc (Lane.tlC t.ls)
 at' : Lane.TlAt B w t.ls
 tells : Lane.Tells t.ls t.x.ss
 ge : ∀ k, F k → B ≤ k
 lt : ∀ k, F k → k < w.heap.size
 fa : ∀ k, blk t.la = some k → F k
 ft : ∀ i, i < t.ls.length → ∀ k, Lane.tb (Lane.tAt t.ls i) k → F k
 ap : ∀ k, blk t.la = some k → ∀ i, i < t.ls.length → ¬ Lane.tb (Lane.tAt t.ls i) k
theorem PrTAt.mod {B : Nat} {w w' : World} {t : PrT} {F S : Nat → Prop} (h : PrTAt B w t F) (hm : Mod S w w') (hn : ∀ k, F k → ¬ S k) : PrTAt B w' t F :=
 ⟨h.row.mod hm (fun k hk => hn k (h.fa k hk)), h.at'.mod hm (fun i hi k hk => hn k (h.ft i hi k hk)), h.tells, h.ge, fun k hk => Nat.lt_of_lt_of_le (h.lt k hk) hm.size, h.fa, h.ft, h.ap⟩
def PrOut (w : World) (x : PrS) (E : Ending) (w' : World) : Prop := ∃ t F, E = .returned (prV t) ∧ t.x = x ∧ PrTAt w.heap.size w' t F ∧ Below w.heap.size w w'
theorem ff_set (v0 v1 v2 v3 v4 v5 v6 v7 v8 v9 v10 v11 v12 v13 v14 u0 u1 u2 u3 u4 u5 u6 u7 u8 u9 u10 u11 u12 u13 u14 : Value) : (((((((((((((((#[v0, v1, v2, v3, v4, v5, v6, v7, v8, v9, v10, v11, v12, v13, v14].setIfInBounds 0 u0).setIfInBounds 1 u1).setIfInBounds 2 u2).setIfInBounds 3 u3).setIfInBounds 4 u4).setIfInBounds 5 u5).setIfInBounds 6 u6).setIfInBounds 7 u7).setIfInBounds 8 u8).setIfInBounds 9 u9).setIfInBounds 10 u10).setIfInBounds 11 u11).setIfInBounds 12 u12).setIfInBounds 13 u13).setIfInBounds 14 u14) = #[u0, u1, u2, u3, u4, u5, u6, u7, u8, u9, u10, u11, u12, u13, u14] := by simp
theorem ff_cells {W : World} {g : Nat} {T : TypeId} {v0 v1 v2 v3 v4 v5 v6 v7 v8 v9 v10 v11 v12 v13 v14 : Value} (h : W.heap[g]? = some (.cells #[v0, v1, v2, v3, v4, v5, v6, v7, v8, v9, v10, v11, v12, v13, v14] T (0, 0))) (u0 u1 u2 u3 u4 u5 u6 u7 u8 u9 u10 u11 u12 u13 u14 : Value) : (((((((((((((((W.setCell ⟨g, 0, none⟩ u0).setCell ⟨g, 1, none⟩ u1).setCell ⟨g, 2, none⟩ u2).setCell ⟨g, 3, none⟩ u3).setCell ⟨g, 4, none⟩ u4).setCell ⟨g, 5, none⟩ u5).setCell ⟨g, 6, none⟩ u6).setCell ⟨g, 7, none⟩ u7).setCell ⟨g, 8, none⟩ u8).setCell ⟨g, 9, none⟩ u9).setCell ⟨g, 10, none⟩ u10).setCell ⟨g, 11, none⟩ u11).setCell ⟨g, 12, none⟩ u12).setCell ⟨g, 13, none⟩ u13).setCell ⟨g, 14, none⟩ u14).heap[g]? = some (.cells #[u0, u1, u2, u3, u4, u5, u6, u7, u8, u9, u10, u11, u12, u13, u14] T (0, 0)) := by
 rw [heap_setCell_self (heap_setCell_self (heap_setCell_self (heap_setCell_self (heap_setCell_self (heap_setCell_self (heap_setCell_self (heap_setCell_self (heap_setCell_self (heap_setCell_self (heap_setCell_self (heap_setCell_self (heap_setCell_self (heap_setCell_self (heap_setCell_self h u0) u1) u2) u3) u4) u5) u6) u7) u8) u9) u10) u11) u12) u13) u14, ff_set]
theorem ff_mod (W : World) (g : Nat) (u0 u1 u2 u3 u4 u5 u6 u7 u8 u9 u10 u11 u12 u13 u14 : Value) : Mod (fun k => k = g) W (((((((((((((((W.setCell ⟨g, 0, none⟩ u0).setCell ⟨g, 1, none⟩ u1).setCell ⟨g, 2, none⟩ u2).setCell ⟨g, 3, none⟩ u3).setCell ⟨g, 4, none⟩ u4).setCell ⟨g, 5, none⟩ u5).setCell ⟨g, 6, none⟩ u6).setCell ⟨g, 7, none⟩ u7).setCell ⟨g, 8, none⟩ u8).setCell ⟨g, 9, none⟩ u9).setCell ⟨g, 10, none⟩ u10).setCell ⟨g, 11, none⟩ u11).setCell ⟨g, 12, none⟩ u12).setCell ⟨g, 13, none⟩ u13).setCell ⟨g, 14, none⟩ u14) := (mod_sets (mod_sets (mod_sets (mod_sets (mod_sets (mod_sets (mod_sets (mod_sets (mod_sets (mod_sets (mod_sets (mod_sets (mod_sets (mod_sets (mod_set _ _ _ _) _ _) _ _) _ _) _ _) _ _) _ _) _ _) _ _) _ _) _ _) _ _) _ _) _ _) _ _)
theorem wok_due {c : Cfg} {m : MS} {i p : Nat} {L : List Wheel.Th} (h : WOk c m i L) (hg : Wheel.GoodW L) (hp : p ∈ ofL c i) (h0 : 0 ≤ (prOf m p).timer) (h1 : 0 ≤ (prOf m p).wake) : (Wheel.dueA (2 * (p : Int)) L).1 = (prOf m p).timer ∧ (Wheel.dueA (2 * (p : Int) + 1) L).1 = (prOf m p).wake := by
 constructor
 ·by_cases e : 0 < (prOf m p).timer
  ·have := Wheel.dueA_some hg ((h _).2 ⟨p, hp, .inl ⟨rfl, e⟩⟩)
   simp only at this
   rw [this]
  ·rw [Wheel.dueA_none]
   ·simp only; omega
   ·rw [Bool.eq_false_iff]
    intro hs
    obtain ⟨t, ht, e2⟩ := Wheel.isSet_iff.1 hs
    obtain ⟨q, hq, ⟨rfl, h3⟩ | ⟨rfl, h3⟩⟩ := (h t).1 ht
    ·have : q = p := by simp only at e2; omega
     subst this
     exact e h3
    ·simp only at e2; omega
 ·by_cases e : 0 < (prOf m p).wake
  ·have := Wheel.dueA_some hg ((h _).2 ⟨p, hp, .inr ⟨rfl, e⟩⟩)
   simp only at this
   rw [this]
  ·rw [Wheel.dueA_none]
   ·simp only; omega
   ·rw [Bool.eq_false_iff]
    intro hs
    obtain ⟨t, ht, e2⟩ := Wheel.isSet_iff.1 hs
    obtain ⟨q, hq, ⟨rfl, h3⟩ | ⟨rfl, h3⟩⟩ := (h t).1 ht
    ·simp only at e2; omega
    ·have : q = p := by simp only at e2; omega
     subst this
     exact e h3
def z72 : Array Value := #[.int .i64 0, .int .i64 0, .int .i64 0, .int .i64 0, .int .i64 0, .int .i64 0, .int .i64 0, .int .i64 0, .int .i64 0, .int .i64 0, .int .i64 0, .int .i64 0, .bool false, .int .i64 0, .slice none 0 0]
structure PrI (w : World) (G : Nat) (cs : Array Value) (wy : World) : Prop where
 box : wy.heap[G]? = some (.cells cs 52 (0, 0))
 res : wy.heap[w.heap.size]? = some (.cells z72 52 (0, 0))
 bel : Below w.heap.size w wy
 gt : w.heap.size < G
theorem PrI.on {w : World} {G : Nat} {cs : Array Value} {wy w2 : World} (h : PrI w G cs wy) (hb : Below wy.heap.size wy w2) : PrI w G cs w2 :=
 ⟨by rw [hb.block _ (Array.getElem?_eq_some_iff.1 h.box).1]; exact h.box, by rw [hb.block _ (Array.getElem?_eq_some_iff.1 h.res).1]; exact h.res, h.bel.trans (hb.mono h.bel.size), h.gt⟩
theorem PrI.put {w : World} {G : Nat} {cs : Array Value} {wy : World} (h : PrI w G cs wy) (o : Nat) (u : Value) : PrI w G (cs.setIfInBounds o u) (wy.setCell ⟨G, o, none⟩ u) := by
 have hm := mod_set wy G o u
 have hg := h.gt
 refine ⟨heap_setCell_self h.box u, ?_, (h.bel.setCell (p := ⟨G, o, none⟩) (by simp only; omega) u), h.gt⟩
 rw [hm.block _ (Array.getElem?_eq_some_iff.1 h.res).1 (by omega)]
 exact h.res
section
variable {w w' : World} {l : Lay} {m : MS} {U : Nat → Prop} {p q i j : Nat}
set_option maxRecDepth 100000 in
set_option maxHeartbeats 8000000 in
theorem qstand_m (h : Mk w l U m) (hs : Shp l.c m) (hc : CfgOk l.c) (hp : p < l.c.procs.length) : Calls Tryz.prog 41 #[.pointer (some ⟨l.bq p, 0, none⟩)] w (PrOut w (prOf m p)) := by
 have hpa := hc.pa_lt hp
 have HK := hd h
 have HS := hd hs
 have HC := hd hc
 have HP := hd hp
 have HA := hd hpa
 obtain ⟨W0, hW0⟩ : ∃ W, Hid (w.alloc (.cells z72 52) = W) := ⟨_, rfl⟩
 have hb0 : Below w.heap.size w W0 := by rw [← hW0.out]; exact below_al w _
 have hW0s : Hid (W0.heap.size = w.heap.size + 1) := hd (by rw [← hW0.out]; simp)
 have hres : W0.heap[w.heap.size]? = some (.cells z72 52 (0, 0)) := by rw [← hW0.out]; exact heap_alloc_new w _
 obtain ⟨x, hx⟩ : ∃ x, Hid (prOf m p = x) := ⟨_, rfl⟩
 obtain ⟨c0, c1, c2, c3, c4, c5, c6, c7, c8, c9, c10, c11, c12, c13, c14, fr⟩ := (h.below hb0).prC hp
 have HPC : Hid (∀ ob, PrC (W0.alloc ob) l p (prOf m p)) := hd (fun ob => (h.below (hb0.alloc hb0.size ob)).prC hp)
 rw [hx.out] at HPC c3 c4 c5 c6 c7 c8 c9 c10 c11 c12 c13 ⊢
 obtain ⟨Q, hQ⟩ : ∃ Q, Hid (PrOut w x = Q) := ⟨_, rfl⟩
 rw [hQ.out]
 have HI0 : Hid (PrI w W0.heap.size #[.int .i64 x.st, .int .i64 x.core.pc, .int .i64 (x.core.r 0), .int .i64 (x.core.r 1), .int .i64 (x.core.r 2), .int .i64 (x.core.r 3), .int .i64 (x.core.r 4), .int .i64 (x.core.r 5), .int .i64 (x.core.r 6), .int .i64 (x.core.r 7), .int .i64 0, .int .i64 0, .bool x.fired, .int .i64 0, .slice none 0 0] (W0.alloc (.cells #[.int .i64 x.st, .int .i64 x.core.pc, .int .i64 (x.core.r 0), .int .i64 (x.core.r 1), .int .i64 (x.core.r 2), .int .i64 (x.core.r 3), .int .i64 (x.core.r 4), .int .i64 (x.core.r 5), .int .i64 (x.core.r 6), .int .i64 (x.core.r 7), .int .i64 0, .int .i64 0, .bool x.fired, .int .i64 0, .slice none 0 0] 52)).drew) := hd (by
  have hs0 := hW0s.out
  refine ⟨heap_alloc_new W0 _, ?_, (hb0.alloc hb0.size _).drew, by omega⟩
  exact ((below_al W0 _).block _ (by omega)).trans hres)
 clear h hs hc hp hpa
 unfold z72 at hW0
 go_enter Tryz.func41, Tryz.ntmps41
 go_upto_region 1 with fail
 rw [hW0.out]
 go_cut [3] (fun v3 wy => ∃ G, v3 = .pointer (some ⟨G, 0, none⟩) ∧ Hid (PrI w G #[.int .i64 x.st, .int .i64 x.core.pc, .int .i64 (x.core.r 0), .int .i64 (x.core.r 1), .int .i64 (x.core.r 2), .int .i64 (x.core.r 3), .int .i64 (x.core.r 4), .int .i64 (x.core.r 5), .int .i64 (x.core.r 6), .int .i64 (x.core.r 7), .int .i64 0, .int .i64 0, .bool x.fired, .int .i64 0, .slice none 0 0] wy))
 case first =>
  go_region_held3 (fun w' => w'.cell? ⟨l.bq p, 3, none⟩ = some (.int .i64 x.st) ∧ w'.cell? ⟨l.bq p, 4, none⟩ = some (.int .i64 x.core.pc) ∧ w'.cell? ⟨l.bq p, 5, none⟩ = some (.int .i64 (x.core.r 0)) ∧ w'.cell? ⟨l.bq p, 6, none⟩ = some (.int .i64 (x.core.r 1)) ∧ w'.cell? ⟨l.bq p, 7, none⟩ = some (.int .i64 (x.core.r 2)) ∧ w'.cell? ⟨l.bq p, 8, none⟩ = some (.int .i64 (x.core.r 3)) ∧ w'.cell? ⟨l.bq p, 9, none⟩ = some (.int .i64 (x.core.r 4)) ∧ w'.cell? ⟨l.bq p, 10, none⟩ = some (.int .i64 (x.core.r 5)) ∧ w'.cell? ⟨l.bq p, 11, none⟩ = some (.int .i64 (x.core.r 6)) ∧ w'.cell? ⟨l.bq p, 12, none⟩ = some (.int .i64 (x.core.r 7)) ∧ w'.cell? ⟨l.bq p, 13, none⟩ = some (.bool x.fired)) (go_keep) (fail)
  go_wp2_with fail
  go_meet
  case rel => exact ⟨_, rfl, HI0⟩
 case rest =>
  obtain ⟨G, rfl, HX⟩ := hcut
  clear HI0 HPC hW0 hW0s hres c0 c1 c2 c3 c4 c5 c6 c7 c8 c9 c10 c11 c12 c13 c14 fr hb0
  have k1 := HK.out.below HX.out.bel
  have x1 := (k1.prC HP.out).c1
  have n7 := (k1.paC HA.out).2.2.2.2.2.2.1
  have htn := tnum_any k1.drew HC.out HP.out
  obtain ⟨F, L, hW, hL, -, -⟩ := k1.drew.whl HA.out
  have hfi := (HS.out.tim p HP.out)
  have hdue := wok_due hL hW.good (HC.out.mem HP.out) hfi.1.1 hfi.2.1
  have hp32 := HC.out.p32
  have hpp := HP.out
  have hdu := Wheel.wdue_any hW (id := 2 * (p : Int)) ⟨by omega, by omega⟩
  rw [hdue.1, hx.out] at hdu
  generalize (Wheel.dueA (2 * (p : Int)) L).2 = q2 at *
  have HON : Hid (∀ W, Below wc.drew.heap.size wc.drew W → PrI w G #[.int .i64 x.st, .int .i64 x.core.pc, .int .i64 (x.core.r 0), .int .i64 (x.core.r 1), .int .i64 (x.core.r 2), .int .i64 (x.core.r 3), .int .i64 (x.core.r 4), .int .i64 (x.core.r 5), .int .i64 (x.core.r 6), .int .i64 (x.core.r 7), .int .i64 0, .int .i64 0, .bool x.fired, .int .i64 0, .slice none 0 0] W) := hd (fun W hb => HX.out.on (bel_dr hb))
  clear k1 hW hL hdue hfi HX hpp
  go_upto_region 2 with fail
  go_cut [23] (fun v23 wy => Hid (PrI w G #[.int .i64 x.st, .int .i64 x.core.pc, .int .i64 (x.core.r 0), .int .i64 (x.core.r 1), .int .i64 (x.core.r 2), .int .i64 (x.core.r 3), .int .i64 (x.core.r 4), .int .i64 (x.core.r 5), .int .i64 (x.core.r 6), .int .i64 (x.core.r 7), .int .i64 0, .int .i64 x.timer, .bool x.fired, .int .i64 0, .slice none 0 0] wy))
  case first =>
   go_region_law (first
    | (go_simp; (with_reducible refine htn.mono ?_); rintro e w1 ⟨rfl, rfl⟩)
    | (go_simp; (with_reducible refine hdu.mono ?_); rintro e w2 ⟨rfl, b2⟩; have hI2 := HON.out w2 b2; have u11 := cell_of_row w2 G 11 _ _ _ hI2.box; have uf : ∀ j, w2.frozen? ⟨G, j, none⟩ = false := (fun j => by simp [World.frozen?, hI2.box]); have HI2 := hd (hI2.put 11 (.int .i64 x.timer)); clear hI2))
   all_goals (
    go_wp2_with fail
    go_meet
    case rel => exact HI2)
  case rest =>
   have HX := hcut
   clear hcut HON hdu htn x1 n7
   have k1 := HK.out.below HX.out.bel
   have x1 := (k1.prC HP.out).c1
   have n7 := (k1.paC HA.out).2.2.2.2.2.2.1
   have htn := snum_any k1.drew HC.out HP.out
   obtain ⟨F, L, hW, hL, -, -⟩ := k1.drew.whl HA.out
   have hfi := (HS.out.tim p HP.out)
   have hdue := wok_due hL hW.good (HC.out.mem HP.out) hfi.1.1 hfi.2.1
   have hpp := HP.out
   have hdu := Wheel.wdue_any hW (id := 2 * (p : Int) + 1) ⟨by omega, by omega⟩
   rw [hdue.2, hx.out] at hdu
   generalize (Wheel.dueA (2 * (p : Int) + 1) L).2 = q3 at *
   have HON : Hid (∀ W, Below wc.drew.heap.size wc.drew W → PrI w G #[.int .i64 x.st, .int .i64 x.core.pc, .int .i64 (x.core.r 0), .int .i64 (x.core.r 1), .int .i64 (x.core.r 2), .int .i64 (x.core.r 3), .int .i64 (x.core.r 4), .int .i64 (x.core.r 5), .int .i64 (x.core.r 6), .int .i64 (x.core.r 7), .int .i64 0, .int .i64 x.timer, .bool x.fired, .int .i64 0, .slice none 0 0] W) := hd (fun W hb => HX.out.on (bel_dr hb))
   clear k1 hW hL hdue hfi HX hpp
   go_upto_region 3 with fail
   go_cut [37] (fun v37 wy => Hid (PrI w G #[.int .i64 x.st, .int .i64 x.core.pc, .int .i64 (x.core.r 0), .int .i64 (x.core.r 1), .int .i64 (x.core.r 2), .int .i64 (x.core.r 3), .int .i64 (x.core.r 4), .int .i64 (x.core.r 5), .int .i64 (x.core.r 6), .int .i64 (x.core.r 7), .int .i64 0, .int .i64 x.timer, .bool x.fired, .int .i64 x.wake, .slice none 0 0] wy))
   case first =>
    go_region_law (first
     | (go_simp; (with_reducible refine htn.mono ?_); rintro e w1 ⟨rfl, rfl⟩)
     | (go_simp; (with_reducible refine hdu.mono ?_); rintro e w2 ⟨rfl, b2⟩; have hI2 := HON.out w2 b2; have u13 := cell_of_row w2 G 13 _ _ _ hI2.box; have uf : ∀ j, w2.frozen? ⟨G, j, none⟩ = false := (fun j => by simp [World.frozen?, hI2.box]); have HI2 := hd (hI2.put 13 (.int .i64 x.wake)); clear hI2))
    all_goals (
     go_wp2_with fail
     go_meet
     case rel => exact HI2)
   case rest =>
    have HX := hcut
    clear hcut HON hdu htn x1 n7
    have k1 := HK.out.below HX.out.bel
    have x14 := (k1.prC HP.out).c14
    obtain ⟨F, hF, -⟩ := k1.pst HP.out
    have hst := Lane.pstate_any hF (HS.out.ls HP.out).good (Nat.le_trans ((HS.out.ls HP.out).tot HC.out) (by decide))
    rw [hx.out] at hst
    have HON : Hid (∀ W, Below wc.heap.size wc W → PrI w G #[.int .i64 x.st, .int .i64 x.core.pc, .int .i64 (x.core.r 0), .int .i64 (x.core.r 1), .int .i64 (x.core.r 2), .int .i64 (x.core.r 3), .int .i64 (x.core.r 4), .int .i64 (x.core.r 5), .int .i64 (x.core.r 6), .int .i64 (x.core.r 7), .int .i64 0, .int .i64 x.timer, .bool x.fired, .int .i64 x.wake, .slice none 0 0] W) := hd (fun W hb => HX.out.on hb)
    have hcw : Hid (Below w.heap.size w wc) := hd HX.out.bel
    have hGl := hd (Array.getElem?_eq_some_iff.1 HX.out.box).1
    clear k1 hF HX
    go_upto_region 5 with (go_at_call 89; refine hst.mono ?_; rintro e w2 ⟨la, lc, ls, rfl, hT, hTe⟩; have hI2 := HON.out w2 hT.bel; have u10 := cell_of_row w2 G 10 _ _ _ hI2.box; have u14 := cell_of_row w2 G 14 _ _ _ hI2.box; have uf : ∀ j, w2.frozen? ⟨G, j, none⟩ = false := (fun j => by simp [World.frozen?, hI2.box]); have HI2 := hd ((hI2.put 14 (.slice la x.ss.length lc)).put 10 (.int .i64 (x.lc : Int))); clear hI2; replace hT := hd hT; replace hTe := hd hTe)
    obtain ⟨V, hV⟩ : ∃ W, Hid ((w2.setCell ⟨G, 14, none⟩ (.slice la x.ss.length lc)).setCell ⟨G, 10, none⟩ (.int .i64 (x.lc : Int)) = W) := ⟨_, rfl⟩
    rw [hV.out] at HI2 ⊢
    have hmV : Mod (fun k => k = G) w2 V := by rw [← hV.out]; exact mod_sets (mod_set _ _ _ _) _ _
    have hGV : V.heap[G]? = some (.cells #[.int .i64 x.st, .int .i64 x.core.pc, .int .i64 (x.core.r 0), .int .i64 (x.core.r 1), .int .i64 (x.core.r 2), .int .i64 (x.core.r 3), .int .i64 (x.core.r 4), .int .i64 (x.core.r 5), .int .i64 (x.core.r 6), .int .i64 (x.core.r 7), .int .i64 (x.lc : Int), .int .i64 x.timer, .bool x.fired, .int .i64 x.wake, .slice la x.ss.length lc] 52 (0, 0)) := by
     have h1 := HI2.out.box
     simp only [List.setIfInBounds_toArray, List.set_cons_succ, List.set_cons_zero] at h1
     exact h1
    have hRV := HI2.out.res
    have hgt := hd HI2.out.gt
    have HO : Hid (Q (.returned (.agg #[.int .i64 x.st, .int .i64 x.core.pc, .int .i64 (x.core.r 0), .int .i64 (x.core.r 1), .int .i64 (x.core.r 2), .int .i64 (x.core.r 3), .int .i64 (x.core.r 4), .int .i64 (x.core.r 5), .int .i64 (x.core.r 6), .int .i64 (x.core.r 7), .int .i64 (x.lc : Int), .int .i64 x.timer, .bool x.fired, .int .i64 x.wake, .slice la x.ss.length lc])) (((((((((((((((V.setCell ⟨w.heap.size, 0, none⟩ (.int .i64 x.st)).setCell ⟨w.heap.size, 1, none⟩ (.int .i64 x.core.pc)).setCell ⟨w.heap.size, 2, none⟩ (.int .i64 (x.core.r 0))).setCell ⟨w.heap.size, 3, none⟩ (.int .i64 (x.core.r 1))).setCell ⟨w.heap.size, 4, none⟩ (.int .i64 (x.core.r 2))).setCell ⟨w.heap.size, 5, none⟩ (.int .i64 (x.core.r 3))).setCell ⟨w.heap.size, 6, none⟩ (.int .i64 (x.core.r 4))).setCell ⟨w.heap.size, 7, none⟩ (.int .i64 (x.core.r 5))).setCell ⟨w.heap.size, 8, none⟩ (.int .i64 (x.core.r 6))).setCell ⟨w.heap.size, 9, none⟩ (.int .i64 (x.core.r 7))).setCell ⟨w.heap.size, 10, none⟩ (.int .i64 (x.lc : Int))).setCell ⟨w.heap.size, 11, none⟩ (.int .i64 x.timer)).setCell ⟨w.heap.size, 12, none⟩ (.bool x.fired)).setCell ⟨w.heap.size, 13, none⟩ (.int .i64 x.wake)).setCell ⟨w.heap.size, 14, none⟩ (.slice la x.ss.length lc))) := hd (by
     rw [← hQ.out]
     have hm6 := ff_mod V w.heap.size (.int .i64 x.st) (.int .i64 x.core.pc) (.int .i64 (x.core.r 0)) (.int .i64 (x.core.r 1)) (.int .i64 (x.core.r 2)) (.int .i64 (x.core.r 3)) (.int .i64 (x.core.r 4)) (.int .i64 (x.core.r 5)) (.int .i64 (x.core.r 6)) (.int .i64 (x.core.r 7)) (.int .i64 (x.lc : Int)) (.int .i64 x.timer) (.bool x.fired) (.int .i64 x.wake) (.slice la x.ss.length lc)
     have hcs := hcw.out.size
     have hs2 := hT.out.bel.size
     have hG1 := hGl.out
     have hG2 := hgt.out
     have hmA : Mod (fun k => k = G ∨ k = w.heap.size) w2 _ := (hmV.mono (fun k _ e => .inl e)).trans (hm6.mono (fun k _ e => .inr e) : Mod (fun k => k = G ∨ k = w.heap.size) _ _) (fun k hk => .inl hk)
     have hlen := hTe.out.1
     have hge := hT.out.ge
     have htg := hT.out.at'.ge
     have htl := hT.out.at'.lt
     have hrl := hT.out.row.lt
     have hsz := hmA.size
     refine ⟨⟨x, la, lc, ls⟩, fun k => blk la = some k ∨ ∃ i, i < ls.length ∧ Lane.tb (Lane.tAt ls i) k, rfl, hx.out ▸ rfl, ⟨?_, ?_, hTe.out, ?_, ?_, fun k hk => .inl hk, fun i hi k hk => .inr ⟨i, hi, hk⟩, fun k hk => (hge k hk).2⟩, ?_⟩
     ·exact hT.out.row.mod hmA (fun k hk e => by have := (hge k hk).1; rcases e with e | e <;> omega)
     ·have h1 := hT.out.at'.mod hmA (fun i hi k hk e => by have := htg i hi k hk; rcases e with e | e <;> omega)
      exact ⟨h1.r1, h1.r2, h1.ne, fun i hi k hk => Nat.le_trans hcs (h1.ge i hi k hk), h1.ap⟩
     ·rintro k (hk | ⟨i, hi, hk⟩)
      ·have := (hge k hk).1; omega
      ·have := htg i hi k hk; omega
     ·rintro k (hk | ⟨i, hi, hk⟩)
      ·have := hrl k hk; omega
      ·have := htl i hi k hk; omega
     ·exact ((Mod.of_below (fun _ => False) (hcw.out.trans (hT.out.bel.mono hcs))).trans hmA (fun k hk => .inr (by rcases hk with e | e <;> omega))).below (Nat.le_refl _) (fun k _ hk => hk.elim))
    have v0 := cell_of_row V G 0 _ _ _ hGV
    have v1 := cell_of_row V G 1 _ _ _ hGV
    have v2 := cell_of_row V G 2 _ _ _ hGV
    have v3 := cell_of_row V G 3 _ _ _ hGV
    have v4 := cell_of_row V G 4 _ _ _ hGV
    have v5 := cell_of_row V G 5 _ _ _ hGV
    have v6 := cell_of_row V G 6 _ _ _ hGV
    have v7 := cell_of_row V G 7 _ _ _ hGV
    have v8 := cell_of_row V G 8 _ _ _ hGV
    have v9 := cell_of_row V G 9 _ _ _ hGV
    have v10 := cell_of_row V G 10 _ _ _ hGV
    have v11 := cell_of_row V G 11 _ _ _ hGV
    have v12 := cell_of_row V G 12 _ _ _ hGV
    have v13 := cell_of_row V G 13 _ _ _ hGV
    have v14 := cell_of_row V G 14 _ _ _ hGV
    unfold z72 at hRV
    have z0 := cell_of_row V w.heap.size 0 _ _ _ hRV
    have z1 := cell_of_row V w.heap.size 1 _ _ _ hRV
    have z2 := cell_of_row V w.heap.size 2 _ _ _ hRV
    have z3 := cell_of_row V w.heap.size 3 _ _ _ hRV
    have z4 := cell_of_row V w.heap.size 4 _ _ _ hRV
    have z5 := cell_of_row V w.heap.size 5 _ _ _ hRV
    have z6 := cell_of_row V w.heap.size 6 _ _ _ hRV
    have z7 := cell_of_row V w.heap.size 7 _ _ _ hRV
    have z8 := cell_of_row V w.heap.size 8 _ _ _ hRV
    have z9 := cell_of_row V w.heap.size 9 _ _ _ hRV
    have z10 := cell_of_row V w.heap.size 10 _ _ _ hRV
    have z11 := cell_of_row V w.heap.size 11 _ _ _ hRV
    have z12 := cell_of_row V w.heap.size 12 _ _ _ hRV
    have z13 := cell_of_row V w.heap.size 13 _ _ _ hRV
    have z14 := cell_of_row V w.heap.size 14 _ _ _ hRV
    have zf : ∀ j, V.frozen? ⟨w.heap.size, j, none⟩ = false := fun j => by simp [World.frozen?, hRV]
    have HZ6 := hd (ff_cells hRV (.int .i64 x.st) (.int .i64 x.core.pc) (.int .i64 (x.core.r 0)) (.int .i64 (x.core.r 1)) (.int .i64 (x.core.r 2)) (.int .i64 (x.core.r 3)) (.int .i64 (x.core.r 4)) (.int .i64 (x.core.r 5)) (.int .i64 (x.core.r 6)) (.int .i64 (x.core.r 7)) (.int .i64 (x.lc : Int)) (.int .i64 x.timer) (.bool x.fired) (.int .i64 x.wake) (.slice la x.ss.length lc))
    clear hV hmV hGV hRV u10 u14 uf HI2 hT hTe HON hst x14 hcw hGl hgt
    go_wp2_with fail
    refine bodyPost_ret (v := .agg #[.int .i64 x.st, .int .i64 x.core.pc, .int .i64 (x.core.r 0), .int .i64 (x.core.r 1), .int .i64 (x.core.r 2), .int .i64 (x.core.r 3), .int .i64 (x.core.r 4), .int .i64 (x.core.r 5), .int .i64 (x.core.r 6), .int .i64 (x.core.r 7), .int .i64 (x.lc : Int), .int .i64 x.timer, .bool x.fired, .int .i64 x.wake, .slice la x.ss.length lc]) ?_ rfl HO.out
    have y0 := cell_of_row _ w.heap.size 0 _ _ _ HZ6.out
    have y1 := cell_of_row _ w.heap.size 1 _ _ _ HZ6.out
    have y2 := cell_of_row _ w.heap.size 2 _ _ _ HZ6.out
    have y3 := cell_of_row _ w.heap.size 3 _ _ _ HZ6.out
    have y4 := cell_of_row _ w.heap.size 4 _ _ _ HZ6.out
    have y5 := cell_of_row _ w.heap.size 5 _ _ _ HZ6.out
    have y6 := cell_of_row _ w.heap.size 6 _ _ _ HZ6.out
    have y7 := cell_of_row _ w.heap.size 7 _ _ _ HZ6.out
    have y8 := cell_of_row _ w.heap.size 8 _ _ _ HZ6.out
    have y9 := cell_of_row _ w.heap.size 9 _ _ _ HZ6.out
    have y10 := cell_of_row _ w.heap.size 10 _ _ _ HZ6.out
    have y11 := cell_of_row _ w.heap.size 11 _ _ _ HZ6.out
    have y12 := cell_of_row _ w.heap.size 12 _ _ _ HZ6.out
    have y13 := cell_of_row _ w.heap.size 13 _ _ _ HZ6.out
    have y14 := cell_of_row _ w.heap.size 14 _ _ _ HZ6.out
    clear HO HZ6 v0 v1 v2 v3 v4 v5 v6 v7 v8 v9 v10 v11 v12 v13 v14 z0 z1 z2 z3 z4 z5 z6 z7 z8 z9 z10 z11 z12 z13 z14 zf
    generalize World.setCell _ _ _ = Wf at *
    simp at y0 y1 y2 y3 y4 y5 y6 y7 y8 y9 y10 y11 y12 y13 y14
    simp [results, Tryz.results41, go_sem, y0, y1, y2, y3, y4, y5, y6, y7, y8, y9, y10, y11, y12, y13, y14]
end
end Go.Proofs.YthhcecllejddeaaGreatDoor

namespace Go.Proofs.YthhcecllejddeaaGreatDoor
open Go.RowKit
inductive Thg where
 | pt (t : PtT) : Thg
 | pr (t : PrT) : Thg
instance : Inhabited Thg := ⟨.pt default⟩
def ThAt (B : Nat) (w : World) (F : Nat → Prop) : Thg → Prop
 | .pt t => PtTAt B w t F
 | .pr t => PrTAt B w t F
theorem ThAt.mod {B : Nat} {w w' : World} {F S : Nat → Prop} {t : Thg} (h : ThAt B w F t) (hm : Mod S w w') (hn : ∀ k, F k → ¬ S k) : ThAt B w' F t := by
 cases t with
 | pt t => exact PtTAt.mod h hm hn
 | pr t => exact PrTAt.mod h hm hn
theorem ThAt.ge {B : Nat} {w : World} {F : Nat → Prop} {t : Thg} (h : ThAt B w F t) : ∀ k, F k → B ≤ k := by
 cases t with
 | pt t => exact PtTAt.ge h
 | pr t => exact PrTAt.ge h
theorem ThAt.lt {B : Nat} {w : World} {F : Nat → Prop} {t : Thg} (h : ThAt B w F t) : ∀ k, F k → k < w.heap.size := by
 cases t with
 | pt t => exact PtTAt.lt h
 | pr t => exact PrTAt.lt h
theorem ThAt.mono {B B' : Nat} {w : World} {F : Nat → Prop} {t : Thg} (h : ThAt B w F t) (hb : B' ≤ B) : ThAt B' w F t := by
 cases t with
 | pt t =>
  have h' : PtTAt B w t F := h
  exact ⟨h'.log, h'.own, ⟨h'.ql.row, h'.ql.qs, fun k hk => Nat.le_trans hb (h'.ql.nb k hk), fun i a b k hk => ⟨Nat.le_trans hb (h'.ql.qb i a b k hk).1, (h'.ql.qb i a b k hk).2⟩, h'.ql.qq⟩, h'.qs, fun k hk => Nat.le_trans hb (h'.ge k hk), h'.lt, h'.fl, h'.fo, h'.fq, h'.ap1, h'.ap2⟩
 | pr t =>
  have h' : PrTAt B w t F := h
  exact ⟨h'.row, ⟨h'.at'.r1, h'.at'.r2, h'.at'.ne, fun i hi k hk => Nat.le_trans hb (h'.at'.ge i hi k hk), h'.at'.ap⟩, h'.tells, fun k hk => Nat.le_trans hb (h'.ge k hk), h'.lt, h'.fa, h'.ft, h'.ap⟩
structure Bag (B : Nat) (w : World) (ts : List Thg) (Fs : Nat → Nat → Prop) : Prop where
 at' : ∀ i, i < ts.length → ThAt B w (Fs i) (ts.getD i default)
 ap : ∀ i j, i < ts.length → j < ts.length → i ≠ j → ∀ k, Fs i k → ¬ Fs j k
theorem Bag.nil (B : Nat) (w : World) (Fs : Nat → Nat → Prop) : Bag B w [] Fs := ⟨fun i hi => absurd hi (Nat.not_lt_zero i), fun i _ hi => absurd hi (Nat.not_lt_zero i)⟩
theorem Bag.mod {B : Nat} {w w' : World} {ts : List Thg} {Fs : Nat → Nat → Prop} {S : Nat → Prop} (h : Bag B w ts Fs) (hm : Mod S w w') (hn : ∀ i, i < ts.length → ∀ k, Fs i k → ¬ S k) : Bag B w' ts Fs := ⟨fun i hi => (h.at' i hi).mod hm (hn i hi), h.ap⟩
theorem Bag.push {B : Nat} {w w1 : World} {ts : List Thg} {Fs : Nat → Nat → Prop} (h : Bag B w ts Fs) (hb : Below w.heap.size w w1) (hB : B ≤ w.heap.size) {t : Thg} {F : Nat → Prop} (ht : ThAt w.heap.size w1 F t) : Bag B w1 (ts ++ [t]) (fun i k => if i = ts.length then F k else Fs i k) := by
 have h1 := h.mod (Mod.of_below (fun _ => False) hb) (fun _ _ _ _ h => h)
 refine ⟨fun i hi => ?_, fun i j hi hj hij k hk hk2 => ?_⟩
 ·by_cases e : i = ts.length
  ·subst e
   simp only [if_true]
   rw [List.getD_eq_getElem?_getD, List.getElem?_append_right (Nat.le_refl _)]
   simp only [Nat.sub_self]
   exact ht.mono hB
  ·simp only [if_neg e]
   have hi' : i < ts.length := by simp at hi; omega
   rw [List.getD_eq_getElem?_getD, List.getElem?_append_left hi', ← List.getD_eq_getElem?_getD]
   exact h1.at' i hi'
 ·simp only [List.length_append, List.length_cons, List.length_nil] at hi hj
  by_cases e : i = ts.length
  ·rw [if_pos e] at hk
   rw [if_neg (by omega)] at hk2
   have g1 := ht.ge k hk
   have g2 := (h.at' j (by omega)).lt k hk2
   omega
  ·rw [if_neg e] at hk
   by_cases e2 : j = ts.length
   ·rw [if_pos e2] at hk2
    have g1 := ht.ge k hk2
    have g2 := (h.at' i (by omega)).lt k hk
    omega
   ·rw [if_neg e2] at hk2
    exact h.ap i j (by omega) (by omega) hij k hk hk2
def ptsC (ps : List PtT) : List Value := ps.flatMap ptL
def prsC (qs : List PrT) : List Value := qs.flatMap prL
theorem ptL_one (t : PtT) : ∀ u ∈ ptL t, u.oneCell' = true := by
 intro u hu
 simp only [ptL, List.mem_cons, List.not_mem_nil, or_false] at hu
 rcases hu with rfl | rfl | rfl | rfl | rfl | rfl <;> rfl
theorem prL_one (t : PrT) : ∀ u ∈ prL t, u.oneCell' = true := by
 intro u hu
 simp only [prL, List.mem_cons, List.not_mem_nil, or_false] at hu
 rcases hu with rfl | rfl | rfl | rfl | rfl | rfl | rfl | rfl | rfl | rfl | rfl | rfl | rfl | rfl | rfl <;> rfl
def z51 : Array Value := #[.int .i64 0, .slice none 0 0, .slice none 0 0]
structure SI (w wr : World) (G : Nat) (tick : Int) (ps : List PtT) (a : Option Addr) (n c : Nat) (qs : List PrT) (b : Option Addr) (n2 d : Nat) (Fs : Nat → Nat → Prop) : Prop where
 np : ps.length = n
 nq : qs.length = n2
 box : wr.heap[G]? = some (.cells #[.int .i64 tick, .slice a n c, .slice b n2 d] 47 (0, 0))
 res : wr.heap[w.heap.size]? = some (.cells z51 47 (0, 0))
 rp : Row wr 104 6 a n c (ptsC ps)
 rq : Row wr 52 15 b n2 d (prsC qs)
 bag : Bag (w.heap.size + 2) wr (ps.map .pt ++ qs.map .pr) Fs
 ag : ∀ k, blk a = some k → w.heap.size + 2 ≤ k ∧ blk b ≠ some k ∧ ∀ i, i < ps.length + qs.length → ¬ Fs i k
 bg : ∀ k, blk b = some k → w.heap.size + 2 ≤ k ∧ ∀ i, i < ps.length + qs.length → ¬ Fs i k
 gg : G = w.heap.size + 1
 bel : Below w.heap.size w wr
theorem things_len (ps : List PtT) (qs : List PrT) : (ps.map Thg.pt ++ qs.map Thg.pr).length = ps.length + qs.length := by simp
theorem SI.below {w wr w1 : World} {G : Nat} {tick : Int} {ps : List PtT} {a : Option Addr} {n c : Nat} {qs : List PrT} {b : Option Addr} {n2 d : Nat} {Fs : Nat → Nat → Prop} (h : SI w wr G tick ps a n c qs b n2 d Fs) (hb : Below wr.heap.size wr w1) : SI w w1 G tick ps a n c qs b n2 d Fs :=
 ⟨h.np, h.nq, by rw [hb.block _ (Array.getElem?_eq_some_iff.1 h.box).1]; exact h.box, by rw [hb.block _ (Array.getElem?_eq_some_iff.1 h.res).1]; exact h.res, h.rp.below hb, h.rq.below hb, h.bag.mod (Mod.of_below (fun _ => False) hb) (fun _ _ _ _ h => h), h.ag, h.bg, h.gg, h.bel.trans (hb.mono h.bel.size)⟩
theorem push_big {T e : TypeId} {z : Value} {size bytes : Nat} (hu : Tryz.prog.underlying T = some (.slice e)) (hinfo : (Tryz.prog.info? e).map (fun i => (i.zero, i.size, i.bytes)) = some (some z, size, bytes)) (hzs : z.cells.size = size) (hb64 : bytes ≤ 256)
  {w : World} {a : Option Addr} {n c : Nat} {xs : List Value} (hR : Row w e size a n c xs) (hn : n ≤ 1000000) (us : List Value) (hus : us.length = size) (h1 : ∀ u ∈ us, u.oneCell' = true) :
  ∃ a' c' w', (∀ ty, (Builtin.append_ #[T, T] ty #[.slice a n c, .slice (some ⟨w.heap.size, 0, none⟩) 1 1]).run Tryz.prog (w.alloc (.cells us.toArray e)) = .ok (.slice a' (n + 1) c') w') ∧
   Row w' e size a' (n + 1) c' (xs ++ us) ∧ Mod (fun k => blk a = some k) w w' ∧ (∀ k, blk a' = some k → blk a = some k ∨ w.heap.size < k) := by
 obtain ⟨i, k1, k2, k3, k4⟩ := info_parts hinfo
 have hb := below_al w (.cells us.toArray e)
 have hh := heap_alloc_new w (.cells us.toArray e)
 have hs : Src Tryz.prog size T (.slice (some ⟨w.heap.size, 0, none⟩) 1 1) 1 us (w.alloc (.cells us.toArray e)) := by
  refine Src.ofSlice _ hu _ _ _ _ (by omega) (fun j u hj => ?_) h1
  rw [addr_add, cell_of_row _ _ _ _ _ _ hh, Nat.zero_add]
  simpa using hj
 obtain ⟨a', c', w', m1, m2, m3, m4, _⟩ := run_append_row (P := Tryz.prog) _ T e i _ size bytes hu k1 k2 k3 k4 hzs (hR.below hb) _ 1 _ hs (by unfold maxLen; omega) (by
  have : (n + 1) * bytes ≤ (n + 1) * 256 := Nat.mul_le_mul_left _ hb64
  omega)
 refine ⟨a', c', w', m1, m2, (Mod.of_below _ hb).trans m3 (fun _ h => .inl h), fun k hk => ?_⟩
 rcases m4 k hk with h | h
 ·exact .inl h
 ·exact .inr (by simp at h; omega)
theorem info_part : (Tryz.prog.info? 104).map (fun i => (i.zero, i.size, i.bytes)) = some (some (.agg #[.int .i64 0, .slice none 0 0, .int .i64 0, .int .i64 0, .slice none 0 0, .slice none 0 0]), 6, 96) := by kernel_rfl
theorem info_process : (Tryz.prog.info? 52).map (fun i => (i.zero, i.size, i.bytes)) = some (some (.agg #[.int .i64 0, .int .i64 0, .int .i64 0, .int .i64 0, .int .i64 0, .int .i64 0, .int .i64 0, .int .i64 0, .int .i64 0, .int .i64 0, .int .i64 0, .int .i64 0, .bool false, .int .i64 0, .slice none 0 0]), 15, 136) := by kernel_rfl
theorem SI.pushP {w wr w1 w2 : World} {G : Nat} {tick : Int} {ps : List PtT} {a : Option Addr} {n c : Nat} {Fs : Nat → Nat → Prop} (h : SI w wr G tick ps a n c [] none 0 0 Fs) (hb : Below wr.heap.size wr w1) {t : PtT} {F : Nat → Prop} (ht : PtTAt wr.heap.size w1 t F) {a' : Option Addr} {c' : Nat}
  (hR : Row w2 104 6 a' (n + 1) c' (ptsC ps ++ ptL t)) (hm : Mod (fun k => blk a = some k) w1 w2) (hn : ∀ k, blk a' = some k → blk a = some k ∨ w1.heap.size < k) : ∃ Fs', SI w (w2.setCell ⟨G, 1, none⟩ (.slice a' (n + 1) c')) G tick (ps ++ [t]) a' (n + 1) c' [] none 0 0 Fs' := by
 have h1 := h.below hb
 have hB : w.heap.size + 2 ≤ wr.heap.size := by
  have := (Array.getElem?_eq_some_iff.1 h.box).1
  have := h.gg
  omega
 have hbag := h.bag.push hb hB (t := .pt t) (F := F) ht
 simp only [List.map_nil, List.append_nil] at hbag
 have hms : Mod (fun k => k = G) w2 (w2.setCell ⟨G, 1, none⟩ (.slice a' (n + 1) c')) := mod_set _ _ _ _
 have hag := h.ag
 have hgg := h.gg
 have hs1 := hb.size
 have hGl := (Array.getElem?_eq_some_iff.1 h1.box).1
 have hna' : ∀ k, blk a' = some k → w.heap.size + 2 ≤ k ∧ (k < wr.heap.size → blk a = some k) := fun k hk => by
  rcases hn k hk with e | e
  ·exact ⟨(hag k e).1, fun _ => e⟩
  ·exact ⟨by omega, fun _ => by omega⟩
 have hFn : ∀ i, i < ps.length + 1 → ∀ k, (if i = ps.length then F k else Fs i k) → w.heap.size + 2 ≤ k ∧ k < w1.heap.size ∧ blk a ≠ some k := fun i hi k hk => by
  by_cases e : i = ps.length
  ·rw [if_pos e] at hk
   have g1 := ht.ge k hk
   have g2 := ht.lt k hk
   exact ⟨by omega, g2, fun ea => by have := h.rp.lt k ea; omega⟩
  ·rw [if_neg e] at hk
   have hi' : i < (ps.map Thg.pt ++ ([] : List PrT).map Thg.pr).length := by simp; omega
   have g1 := (h.bag.at' i hi').ge k hk
   have g2 := (h.bag.at' i hi').lt k hk
   exact ⟨g1, by omega, fun ea => (hag k ea).2.2 i (by simp; omega) hk⟩
 refine ⟨fun i k => if i = (ps.map Thg.pt).length then F k else Fs i k, ⟨by simp [h.np], rfl, ?_, ?_, ?_, Row.nil, ?_, fun k hk => ⟨(hna' k hk).1, fun e => (by cases e), fun i hi hf => ?_⟩, fun k hk => (by cases hk), h.gg, ?_⟩⟩
 ·have e1 : w2.heap[G]? = _ := (hm.block G hGl (fun e => by have := (hag G e).1; omega)).trans h1.box
  rw [heap_setCell_self e1]
  rfl
 ·rw [hms.block _ (by have := hm.size; omega) (by omega), hm.block _ (by omega) (fun e => by have := (hag _ e).1; omega)]
  exact h1.res
 ·have e2 : ptsC (ps ++ [t]) = ptsC ps ++ ptL t := by simp [ptsC]
  rw [e2]
  exact hR.mod hms (fun k hk e => by have := (hna' k hk).1; omega)
 ·simp only [List.map_append, List.map_cons, List.map_nil, List.append_nil]
  have hl : (List.map Thg.pt ps).length = ps.length := by simp
  refine (hbag.mod hm (fun i hi k hk => ?_)).mod hms (fun i hi k hk e => ?_)
  ·simp only [List.length_append, List.length_cons, List.length_nil, hl] at hi hk
   exact (hFn i (by omega) k hk).2.2
  ·simp only [List.length_append, List.length_cons, List.length_nil, hl] at hi hk
   have := (hFn i (by omega) k hk).1
   omega
 ·have hl : (List.map Thg.pt ps).length = ps.length := by simp
  rw [hl] at hf
  simp only [List.length_append, List.length_cons, List.length_nil] at hi
  have g := hFn i (by omega) k hf
  rcases hn k hk with e | e
  ·exact g.2.2 e
  ·omega
 ·have hbw := h1.bel
  exact ((Mod.of_below (fun _ => False) hbw).trans ((hm.mono (fun k _ e => .inl e)).trans (hms.mono (fun k _ e => .inr e) : Mod (fun k => blk a = some k ∨ k = G) _ _) (fun k hk => .inl hk)) (fun k hk => .inr (by
   rcases hk with e | e
   ·have := (hag k e).1; omega
   ·omega))).below (Nat.le_refl _) (fun k _ hk => hk.elim)
theorem SI.pushQ {w wr w1 w2 : World} {G : Nat} {tick : Int} {ps : List PtT} {a : Option Addr} {n c : Nat} {qs : List PrT} {b : Option Addr} {n2 d : Nat} {Fs : Nat → Nat → Prop} (h : SI w wr G tick ps a n c qs b n2 d Fs) (hb : Below wr.heap.size wr w1) {t : PrT} {F : Nat → Prop} (ht : PrTAt wr.heap.size w1 t F) {b' : Option Addr} {d' : Nat}
  (hR : Row w2 52 15 b' (n2 + 1) d' (prsC qs ++ prL t)) (hm : Mod (fun k => blk b = some k) w1 w2) (hn : ∀ k, blk b' = some k → blk b = some k ∨ w1.heap.size < k) : ∃ Fs', SI w (w2.setCell ⟨G, 2, none⟩ (.slice b' (n2 + 1) d')) G tick ps a n c (qs ++ [t]) b' (n2 + 1) d' Fs' := by
 have h1 := h.below hb
 have hB : w.heap.size + 2 ≤ wr.heap.size := by
  have := (Array.getElem?_eq_some_iff.1 h.box).1
  have := h.gg
  omega
 have hbag := h.bag.push hb hB (t := .pr t) (F := F) ht
 have hms : Mod (fun k => k = G) w2 (w2.setCell ⟨G, 2, none⟩ (.slice b' (n2 + 1) d')) := mod_set _ _ _ _
 have hag := h.ag
 have hbg := h.bg
 have hgg := h.gg
 have hs1 := hb.size
 have hGl := (Array.getElem?_eq_some_iff.1 h1.box).1
 have hl := things_len ps qs
 have hna' : ∀ k, blk b' = some k → w.heap.size + 2 ≤ k := fun k hk => by
  rcases hn k hk with e | e
  ·exact (hbg k e).1
  ·omega
 have hFn : ∀ i, i < ps.length + qs.length + 1 → ∀ k, (if i = ps.length + qs.length then F k else Fs i k) → w.heap.size + 2 ≤ k ∧ k < w1.heap.size ∧ blk b ≠ some k ∧ blk a ≠ some k := fun i hi k hk => by
  by_cases e : i = ps.length + qs.length
  ·rw [if_pos e] at hk
   have g1 := ht.ge k hk
   have g2 := ht.lt k hk
   exact ⟨by omega, g2, fun ea => by have := h.rq.lt k ea; omega, fun ea => by have := h.rp.lt k ea; omega⟩
  ·rw [if_neg e] at hk
   have hi' : i < (ps.map Thg.pt ++ qs.map Thg.pr).length := by rw [hl]; omega
   have g1 := (h.bag.at' i hi').ge k hk
   have g2 := (h.bag.at' i hi').lt k hk
   exact ⟨g1, by omega, fun ea => (hbg k ea).2 i (by omega) hk, fun ea => (hag k ea).2.2 i (by omega) hk⟩
 refine ⟨fun i k => if i = ps.length + qs.length then F k else Fs i k, ⟨h.np, by simp [h.nq], ?_, ?_, ?_, ?_, ?_, fun k hk => ⟨(hag k hk).1, fun e => ?_, fun i hi hf => ?_⟩, fun k hk => ⟨hna' k hk, fun i hi hf => ?_⟩, h.gg, ?_⟩⟩
 ·have e1 : w2.heap[G]? = _ := (hm.block G hGl (fun e => by have := (hbg G e).1; omega)).trans h1.box
  rw [heap_setCell_self e1]
  rfl
 ·rw [hms.block _ (by have := hm.size; omega) (by omega), hm.block _ (by omega) (fun e => by have := (hbg _ e).1; omega)]
  exact h1.res
 ·exact (h1.rp.mod hm (fun k hk => (hag k hk).2.1)).mod hms (fun k hk e => by have := (hag k hk).1; omega)
 ·have e2 : prsC (qs ++ [t]) = prsC qs ++ prL t := by simp [prsC]
  rw [e2]
  exact hR.mod hms (fun k hk e => by have := hna' k hk; omega)
 ·rw [List.map_append, ← List.append_assoc]
  rw [hl] at hbag
  refine (hbag.mod hm (fun i hi k hk => ?_)).mod hms (fun i hi k hk e => ?_)
  ·rw [List.length_append, hl] at hi
   exact (hFn i (by simpa using hi) k hk).2.2.1
  ·rw [List.length_append, hl] at hi
   have := (hFn i (by simpa using hi) k hk).1
   omega
 ·rcases hn k e with e1 | e1
  ·exact (hag k hk).2.1 e1
  ·have := h.rp.lt k hk
   omega
 ·simp only [List.length_append, List.length_cons, List.length_nil] at hi
  exact (hFn i (by omega) k hf).2.2.2 hk
 ·simp only [List.length_append, List.length_cons, List.length_nil] at hi
  have g := hFn i (by omega) k hf
  rcases hn k hk with e | e
  ·exact g.2.2.1 e
  ·omega
 ·have hbw := h1.bel
  exact ((Mod.of_below (fun _ => False) hbw).trans ((hm.mono (fun k _ e => .inl e)).trans (hms.mono (fun k _ e => .inr e) : Mod (fun k => blk b = some k ∨ k = G) _ _) (fun k hk => .inl hk)) (fun k hk => .inr (by
   rcases hk with e | e
   ·have := (hbg k e).1; omega
   ·omega))).below (Nat.le_refl _) (fun k _ hk => hk.elim)
end Go.Proofs.YthhcecllejddeaaGreatDoor

namespace Go.Proofs.YthhcecllejddeaaGreatDoor
open Go.RowKit
structure ST (B : Nat) (w : World) (m : MS) (ps : List PtT) (a : Option Addr) (c : Nat) (qs : List PrT) (b : Option Addr) (d : Nat) (Fs : Nat → Nat → Prop) : Prop where
 np : ps.map (·.x) = m.pt
 nq : qs.map (·.x) = m.pr
 rp : Row w 104 6 a m.pt.length c (ptsC ps)
 rq : Row w 52 15 b m.pr.length d (prsC qs)
 bag : Bag B w (ps.map .pt ++ qs.map .pr) Fs
 ag : ∀ k, blk a = some k → B ≤ k ∧ blk b ≠ some k ∧ ∀ i, i < ps.length + qs.length → ¬ Fs i k
 bg : ∀ k, blk b = some k → B ≤ k ∧ ∀ i, i < ps.length + qs.length → ¬ Fs i k
def stV (m : MS) (a : Option Addr) (c : Nat) (b : Option Addr) (d : Nat) : Value := .agg #[.int .i64 m.tick, .slice a m.pt.length c, .slice b m.pr.length d]
def StOut (w : World) (m : MS) (E : Ending) (w' : World) : Prop := ∃ ps a c qs b d Fs, E = .returned (stV m a c b d) ∧ ST w.heap.size w' m ps a c qs b d Fs ∧ Below w.heap.size w w'
section
variable {w w' : World} {l : Lay} {m : MS} {U : Nat → Prop} {p q i j : Nat}
set_option maxRecDepth 100000 in
set_option maxHeartbeats 8000000 in
theorem state_m (h : Mk w l U m) (hs : Shp l.c m) (hc : CfgOk l.c) : Calls Tryz.prog 21 #[.pointer (some ⟨l.bm, 0, none⟩)] w (StOut w m) := by
 have HK := hd h
 have HS := hd hs
 have HC := hd hc
 obtain ⟨Q, hQ⟩ : ∃ Q, Hid (StOut w m = Q) := ⟨_, rfl⟩
 rw [hQ.out]
 have hb0 := below_al w (.cells z51 47)
 have m9 := (h.below hb0).maC.2.2.2.2.1
 have HI0 : Hid (SI w ((w.alloc (.cells z51 47)).alloc (.cells #[.int .i64 m.tick, .slice none 0 0, .slice none 0 0] 47)) (w.heap.size + 1) m.tick [] none 0 0 [] none 0 0 (fun _ _ => False)) := hd (by
  have e : (w.alloc (.cells z51 47)).heap.size = w.heap.size + 1 := by simp
  refine ⟨rfl, rfl, ?_, ?_, Row.nil, Row.nil, Bag.nil _ _ _, fun k hk => (by cases hk), fun k hk => (by cases hk), rfl, hb0.alloc hb0.size _⟩
  ·have := heap_alloc_new (w.alloc (.cells z51 47)) (.cells #[.int .i64 m.tick, .slice none 0 0, .slice none 0 0] 47)
   rw [e] at this
   exact this
  ·rw [(below_al (w.alloc (.cells z51 47)) _).block _ (by omega)]
   exact heap_alloc_new w _)
 obtain ⟨T, hT⟩ : ∃ T, Hid (m.tick = T) := ⟨_, rfl⟩
 obtain ⟨np, hnp⟩ : ∃ n, Hid (l.c.labels.length = n) := ⟨_, rfl⟩
 obtain ⟨nq, hnq⟩ : ∃ n, Hid (l.c.procs.length = n) := ⟨_, rfl⟩
 have hnp8 : np ≤ 8 := by rw [← hnp.out]; exact hc.n8
 have hnq32 : nq ≤ 32 := by rw [← hnq.out]; exact hc.p32
 rw [hT.out] at m9 HI0
 unfold z51 at m9 HI0
 clear h hs hc hb0
 go_enter Tryz.func21, Tryz.ntmps21
 go_upto_region 2 with fail
 obtain ⟨W, hW⟩ : ∃ W, Hid ((w.alloc (.cells #[.int .i64 0, .slice none 0 0, .slice none 0 0] 47)).alloc (.cells #[.int .i64 T, .slice none 0 0, .slice none 0 0] 47) = W) := ⟨_, rfl⟩
 obtain ⟨G, hG⟩ : ∃ G, Hid (w.heap.size + 1 = G) := ⟨_, rfl⟩
 rw [hW.out] at HI0 ⊢
 rw [hG.out] at HI0 ⊢
 clear hW m9
 have k0 := HK.out.below HI0.out.bel
 have m10 := k0.maC.2.2.2.2.2.1
 rw [hnp.out] at m10
 obtain ⟨ap, hap⟩ : ∃ a, Hid (l.ap = a) := ⟨_, rfl⟩
 rw [hap.out] at m10
 have HR0 : Hid (∃ ps Fs, SI w W G T ps none 0 0 [] none 0 0 Fs ∧ ps.map (·.x) = m.pt.take 0) := hd ⟨[], _, HI0.out, by simp⟩
 clear k0 HI0
 go_wp2_with fail
 go_loopg [18] np (fun k v18 wr => ∃ (j : Nat), v18 = .int .i64 (j : Int) ∧ j + k = np ∧ Hid (∃ ps a c Fs, SI w wr G T ps a j c [] none 0 0 Fs ∧ ps.map (·.x) = m.pt.take j))
 case atStart => exact ⟨0, rfl, by omega, hd (by obtain ⟨ps, Fs, h1, h2⟩ := HR0.out; exact ⟨ps, none, 0, Fs, h1, h2⟩)⟩
 case round =>
  obtain ⟨j, rfl, hjk, HH⟩ := hrel
  clear HR0 m10
  obtain ⟨ps, a, c, Fs, hI, hps⟩ := HH.out
  clear HH
  by_cases hlt : j < np
  ·have hlt' : (j : Int) < (np : Int) := by omega
   have hjl : j < l.c.labels.length := by rw [hnp.out]; exact hlt
   have k1 := HK.out.below hI.bel
   obtain ⟨g, ag, cg⟩ := k1.partPtr hjl
   obtain rfl : ap = some ⟨g, 0, none⟩ := hap.out.symm.trans ag
   have hst := pstand_m k1.drew HS.out HC.out hjl
   have x1 : wr.cell? ⟨G, 1, none⟩ = some (.slice a j c) := cell_of_row wr G 1 _ _ _ hI.box
   have HN : Hid (∀ e w1, PtOut wr.drew (ptOf m j) e w1 → ∃ (t : PtT) (a' : Option Addr) (c' : Nat) (w2 : World), e = .returned (.agg #[.int .i64 (t.x.cur : Int), .slice t.la t.x.log.length t.lc, .int .i64 t.x.lost, .int .i64 t.x.forb, .slice t.oa t.x.os.length t.oc, .slice t.qa t.x.os.length t.qc]) ∧ (∀ W, Below w1.heap.size w1 W → W.cell? ⟨G, 1, none⟩ = some (.slice a j c)) ∧
     (∀ ty, (Builtin.append_ #[44, 44] ty #[.slice a j c, .slice (some ⟨w1.heap.size, 0, none⟩) 1 1]).run Tryz.prog (w1.alloc (.cells #[.int .i64 (t.x.cur : Int), .slice t.la t.x.log.length t.lc, .int .i64 t.x.lost, .int .i64 t.x.forb, .slice t.oa t.x.os.length t.oc, .slice t.qa t.x.os.length t.qc] 104)) = .ok (.slice a' (j + 1) c') w2) ∧ (∃ u, w2.cell? ⟨G, 1, none⟩ = some u) ∧ w2.frozen? ⟨G, 1, none⟩ = false ∧
     Hid (∃ ps Fs, SI w (w2.setCell ⟨G, 1, none⟩ (.slice a' (j + 1) c')) G T ps a' (j + 1) c' [] none 0 0 Fs ∧ ps.map (·.x) = m.pt.take (j + 1))) := hd (fun e w1 he => by
    obtain ⟨t, F, rfl, htx, hat, hb⟩ := he
    have hb' := bel_dr hb
    have h1 := hI.below hb'
    obtain ⟨a', c', w2, q1, q2, q3, q4⟩ := push_big (T := 44) Tryz.underlying44 info_part rfl (by omega) h1.rp (by omega) (ptL t) rfl (ptL_one t)
    have hGl := (Array.getElem?_eq_some_iff.1 h1.box).1
    have hga : blk a ≠ some G := fun e => by have := (hI.ag G e).1; have := hI.gg; omega
    have hbG : w2.heap[G]? = w1.heap[G]? := q3.block _ hGl hga
    refine ⟨t, a', c', w2, rfl, fun W hW => ?_, q1, ⟨_, (World.cell?_of_block (w := w1) hbG).trans (cell_of_row w1 G 1 _ _ _ h1.box)⟩, (World.frozen?_of_block (w := w1) hbG).trans (by simp [World.frozen?, h1.box]), hd ?_⟩
    ·have := (h1.below hW).box
     exact cell_of_row W G 1 _ _ _ this
    ·obtain ⟨Fs', h2⟩ := hI.pushP hb' (t := t) (F := F) hat q2 q3 q4
     refine ⟨_, Fs', h2, ?_⟩
     rw [List.map_append, hps, take_snoc m.pt j default (by rw [HS.out.np]; exact hjl)]
     simp only [List.map_cons, List.map_nil, htx]
     rfl)
   clear hI k1 ag hjl
   go_upto_region 5 with fail
   go_region_law (first
    | (go_simp; (with_reducible refine hst.mono ?_); rintro e w1 he; obtain ⟨t, a', c', w2, rfl, y1, y2, ⟨yu, y3⟩, y4, HY⟩ := HN.out e w1 he; have y0 := y1 w1 (Below.refl _ _); have yA : ∀ ob, (w1.alloc ob).cell? ⟨G, 1, none⟩ = some (.slice a j c) := (fun ob => y1 _ (below_al w1 ob)); replace y2 := hd y2; clear he y1)
    | (refine Lane.step_append_run (by rfl) _ _ _ (by rfl) _ _ _ _ (by rfl) (by rfl) y2.out ?_; clear y2))
   all_goals (
    go_wp2_with fail
    go_roundg (gk - 1)
    case rel => exact ⟨j + 1, by go_num, by omega, hd (by obtain ⟨ps, Fs, g1, g2⟩ := HY.out; exact ⟨ps, a', c', Fs, g1, g2⟩)⟩
    case measure => omega)
  ·obtain rfl : j = np := by omega
   have k1 := HK.out.below hI.bel
   have m11 := k1.maC.2.2.2.2.2.2.1
   rw [hnq.out] at m11
   obtain ⟨aq, haq⟩ : ∃ a, Hid (l.aq = a) := ⟨_, rfl⟩
   rw [haq.out] at m11
   have hpsl : ps.length = j := hI.np
   have hpsa : Hid (ps.map (·.x) = m.pt) := hd (by rw [hps, List.take_of_length_le (by rw [HS.out.np, hnp.out]; exact Nat.le_refl _)])
   have HR1 : Hid (∃ qs Fs, SI w wr G T ps a j c qs none 0 0 Fs ∧ qs.map (·.x) = m.pr.take 0) := hd ⟨[], Fs, hI, by simp⟩
   clear k1 hI hps hjk hlt hap
   go_wp2_with fail
   go_loopg [35] nq (fun k v35 wr => ∃ (i : Nat), v35 = .int .i64 (i : Int) ∧ i + k = nq ∧ Hid (∃ qs b d Fs, SI w wr G T ps a j c qs b i d Fs ∧ qs.map (·.x) = m.pr.take i))
   case atStart => exact ⟨0, rfl, by omega, hd (by obtain ⟨qs, Fs, h1, h2⟩ := HR1.out; exact ⟨qs, none, 0, Fs, h1, h2⟩)⟩
   case round =>
    obtain ⟨i, rfl, hik, HH⟩ := hrel
    clear HR1 m11
    obtain ⟨qs, b, d, Fs, hI, hqs⟩ := HH.out
    clear HH
    by_cases hlt : i < nq
    ·have hlt' : (i : Int) < (nq : Int) := by omega
     have hil : i < l.c.procs.length := by rw [hnq.out]; exact hlt
     have k1 := HK.out.below hI.bel
     obtain ⟨g, ag, cg⟩ := k1.procPtr hil
     obtain rfl : aq = some ⟨g, 0, none⟩ := haq.out.symm.trans ag
     have hst := qstand_m k1.drew HS.out HC.out hil
     have x1 : wr.cell? ⟨G, 2, none⟩ = some (.slice b i d) := cell_of_row wr G 2 _ _ _ hI.box
     have HN : Hid (∀ e w1, PrOut wr.drew (prOf m i) e w1 → ∃ (t : PrT) (a' : Option Addr) (c' : Nat) (w2 : World), e = .returned (.agg #[.int .i64 t.x.st, .int .i64 t.x.core.pc, .int .i64 (t.x.core.r 0), .int .i64 (t.x.core.r 1), .int .i64 (t.x.core.r 2), .int .i64 (t.x.core.r 3), .int .i64 (t.x.core.r 4), .int .i64 (t.x.core.r 5), .int .i64 (t.x.core.r 6), .int .i64 (t.x.core.r 7), .int .i64 (t.x.lc : Int), .int .i64 t.x.timer, .bool t.x.fired, .int .i64 t.x.wake, .slice t.la t.x.ss.length t.lc]) ∧ (∀ W, Below w1.heap.size w1 W → W.cell? ⟨G, 2, none⟩ = some (.slice b i d)) ∧
       (∀ ty, (Builtin.append_ #[45, 45] ty #[.slice b i d, .slice (some ⟨w1.heap.size, 0, none⟩) 1 1]).run Tryz.prog (w1.alloc (.cells #[.int .i64 t.x.st, .int .i64 t.x.core.pc, .int .i64 (t.x.core.r 0), .int .i64 (t.x.core.r 1), .int .i64 (t.x.core.r 2), .int .i64 (t.x.core.r 3), .int .i64 (t.x.core.r 4), .int .i64 (t.x.core.r 5), .int .i64 (t.x.core.r 6), .int .i64 (t.x.core.r 7), .int .i64 (t.x.lc : Int), .int .i64 t.x.timer, .bool t.x.fired, .int .i64 t.x.wake, .slice t.la t.x.ss.length t.lc] 52)) = .ok (.slice a' (i + 1) c') w2) ∧ (∃ u, w2.cell? ⟨G, 2, none⟩ = some u) ∧ w2.frozen? ⟨G, 2, none⟩ = false ∧
       Hid (∃ qs Fs, SI w (w2.setCell ⟨G, 2, none⟩ (.slice a' (i + 1) c')) G T ps a j c qs a' (i + 1) c' Fs ∧ qs.map (·.x) = m.pr.take (i + 1))) := hd (fun e w1 he => by
      obtain ⟨t, F, rfl, htx, hat, hb⟩ := he
      have hb' := bel_dr hb
      have h1 := hI.below hb'
      obtain ⟨a', c', w2, q1, q2, q3, q4⟩ := push_big (T := 45) Tryz.underlying45 info_process rfl (by omega) h1.rq (by omega) (prL t) rfl (prL_one t)
      have hGl := (Array.getElem?_eq_some_iff.1 h1.box).1
      have hga : blk b ≠ some G := fun e => by have := (hI.bg G e).1; have := hI.gg; omega
      have hbG : w2.heap[G]? = w1.heap[G]? := q3.block _ hGl hga
      refine ⟨t, a', c', w2, rfl, fun W hW => ?_, q1, ⟨_, (World.cell?_of_block (w := w1) hbG).trans (cell_of_row w1 G 2 _ _ _ h1.box)⟩, (World.frozen?_of_block (w := w1) hbG).trans (by simp [World.frozen?, h1.box]), hd ?_⟩
      ·have := (h1.below hW).box
       exact cell_of_row W G 2 _ _ _ this
      ·obtain ⟨Fs', h2⟩ := hI.pushQ hb' (t := t) (F := F) hat q2 q3 q4
       refine ⟨_, Fs', h2, ?_⟩
       rw [List.map_append, hqs, take_snoc m.pr i default (by rw [HS.out.nq]; exact hil)]
       simp only [List.map_cons, List.map_nil, htx]
       rfl)
     clear hI k1 ag hil
     go_upto_region 10 with fail
     go_region_law (first
      | (go_simp; (with_reducible refine hst.mono ?_); rintro e w1 he; obtain ⟨t, a', c', w2, rfl, y1, y2, ⟨yu, y3⟩, y4, HY⟩ := HN.out e w1 he; have y0 := y1 w1 (Below.refl _ _); have yA : ∀ ob, (w1.alloc ob).cell? ⟨G, 2, none⟩ = some (.slice b i d) := (fun ob => y1 _ (below_al w1 ob)); replace y2 := hd y2; clear he y1)
      | (refine Lane.step_append_run (by rfl) _ _ _ (by rfl) _ _ _ _ (by rfl) (by rfl) y2.out ?_; clear y2))
     all_goals (
      go_wp2_with fail
      go_roundg (gk - 1)
      case rel => exact ⟨i + 1, by go_num, by omega, hd (by obtain ⟨qs, Fs, g1, g2⟩ := HY.out; exact ⟨qs, a', c', Fs, g1, g2⟩)⟩
      case measure => omega)
    ·obtain rfl : i = nq := by omega
     have hqsa : qs.map (·.x) = m.pr := by rw [hqs, List.take_of_length_le (by rw [HS.out.nq, hnq.out]; exact Nat.le_refl _)]
     have hGV := hI.box
     have hRV := hI.res
     have hgg := hI.gg
     have hl1 : m.pt.length = j := by rw [HS.out.np, hnp.out]
     have hl2 : m.pr.length = i := by rw [HS.out.nq, hnq.out]
     have HO : Hid (Q (.returned (.agg #[.int .i64 T, .slice a j c, .slice b i d])) (((wr.setCell ⟨w.heap.size, 0, none⟩ (.int .i64 T)).setCell ⟨w.heap.size, 1, none⟩ (.slice a j c)).setCell ⟨w.heap.size, 2, none⟩ (.slice b i d))) := hd (by
      rw [← hQ.out]
      have hm3 : Mod (fun k => k = w.heap.size) wr (((wr.setCell ⟨w.heap.size, 0, none⟩ (.int .i64 T)).setCell ⟨w.heap.size, 1, none⟩ (.slice a j c)).setCell ⟨w.heap.size, 2, none⟩ (.slice b i d)) := mod_sets (mod_sets (mod_set _ _ _ _) _ _) _ _
      refine ⟨ps, a, c, qs, b, d, Fs, by rw [stV, hT.out, hl1, hl2], ⟨hpsa.out, hqsa, ?_, ?_, ?_, fun k hk => ⟨by have := (hI.ag k hk).1; omega, (hI.ag k hk).2⟩, fun k hk => ⟨by have := (hI.bg k hk).1; omega, (hI.bg k hk).2⟩⟩, ?_⟩
      ·rw [hl1]; exact hI.rp.mod hm3 (fun k hk e => by have := (hI.ag k hk).1; omega)
      ·rw [hl2]; exact hI.rq.mod hm3 (fun k hk e => by have := (hI.bg k hk).1; omega)
      ·have hbg := hI.bag.mod hm3 (fun x hx k hk e => by have := (hI.bag.at' x hx).ge k hk; omega)
       exact ⟨fun x hx => (hbg.at' x hx).mono (by omega), hbg.ap⟩
      ·exact ((Mod.of_below (fun _ => False) hI.bel).trans hm3 (fun k hk => .inr (by omega))).below (Nat.le_refl _) (fun k _ hk => hk.elim))
     have v0 := cell_of_row wr G 0 _ _ _ hGV
     have v1 := cell_of_row wr G 1 _ _ _ hGV
     have v2 := cell_of_row wr G 2 _ _ _ hGV
     unfold z51 at hRV
     have z0 := cell_of_row wr w.heap.size 0 _ _ _ hRV
     have z1 := cell_of_row wr w.heap.size 1 _ _ _ hRV
     have z2 := cell_of_row wr w.heap.size 2 _ _ _ hRV
     have zf : ∀ j, wr.frozen? ⟨w.heap.size, j, none⟩ = false := fun j => by simp [World.frozen?, hRV]
     have HZ3 : Hid ((((wr.setCell ⟨w.heap.size, 0, none⟩ (.int .i64 T)).setCell ⟨w.heap.size, 1, none⟩ (.slice a j c)).setCell ⟨w.heap.size, 2, none⟩ (.slice b i d)).heap[w.heap.size]? = some (.cells #[.int .i64 T, .slice a j c, .slice b i d] 47 (0, 0))) := hd (by
      rw [heap_setCell_self (heap_setCell_self (heap_setCell_self hRV _) _) _]
      rfl)
     clear hI hGV hRV hgg hqsa hqs hl1 hl2 hpsl hlt hik
     go_wp2_with fail
     refine bodyPost_ret (v := .agg #[.int .i64 T, .slice a j c, .slice b i d]) ?_ rfl HO.out
     have y0 := cell_of_row _ w.heap.size 0 _ _ _ HZ3.out
     have y1 := cell_of_row _ w.heap.size 1 _ _ _ HZ3.out
     have y2 := cell_of_row _ w.heap.size 2 _ _ _ HZ3.out
     clear HO HZ3 v0 v1 v2 z0 z1 z2 zf
     generalize World.setCell _ _ _ = Wf at *
     simp at y0 y1 y2
     simp [results, Tryz.results21, go_sem, y0, y1, y2]
end
end Go.Proofs.YthhcecllejddeaaGreatDoor
