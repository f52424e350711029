/- A run in memory: its slots. -/
import Derived.Test.YthhcecllejddeaaGreatDoorGMc
import Derived.Test.YthhcecllejddeaaGreatDoorGMj
import Derived.Test.YthhcecllejddeaaGreatDoorGMk
import Derived.Test.YthhcecllejddeaaGreatDoorGNd
import Derived.Test.YthhcecllejddeaaGreatDoorGQg
import Derived.Test.YthhcecllejddeaaGreatDoorGXa
namespace Go.Proofs.YthhcecllejddeaaGreatDoor
open Go.RowKit
structure RunAt (w : World) (br : Nat) (l : Lay) (U : Nat → Prop) (m : MS) (T O : Int) : Prop where
 obj : w.heap[br]? = some (.cells #[.pointer (some ⟨l.bm, 0, none⟩), .int .i64 T, .int .i64 O] 72 (0, 0))
 kk : Mk w l U m
 nu : ¬ U br
 nk : ¬ l.K br
section
variable {w w' : World} {br : Nat} {l : Lay} {U : Nat → Prop} {m m' : MS} {T O T' O' : Int}
theorem RunAt.lt (h : RunAt w br l U m T O) : br < w.heap.size := (Array.getElem?_eq_some_iff.1 h.obj).1
theorem RunAt.c0 (h : RunAt w br l U m T O) : w.cell? ⟨br, 0, none⟩ = some (.pointer (some ⟨l.bm, 0, none⟩)) := cell_of_row _ _ _ _ _ _ h.obj
theorem RunAt.c1 (h : RunAt w br l U m T O) : w.cell? ⟨br, 1, none⟩ = some (.int .i64 T) := cell_of_row _ _ _ _ _ _ h.obj
theorem RunAt.c2 (h : RunAt w br l U m T O) : w.cell? ⟨br, 2, none⟩ = some (.int .i64 O) := cell_of_row _ _ _ _ _ _ h.obj
theorem RunAt.fr (h : RunAt w br l U m T O) (i : Nat) : w.frozen? ⟨br, i, none⟩ = false := by simp [World.frozen?, h.obj]
theorem RunAt.below (h : RunAt w br l U m T O) (hb : Below w.heap.size w w') : RunAt w' br l U m T O := ⟨by rw [hb.block br h.lt]; exact h.obj, h.kk.below hb, h.nu, h.nk⟩
theorem RunAt.on (h : RunAt w br l U m T O) (ho : MkOut w l U m' w') : ∃ U', To w U w' U' ∧ RunAt w' br l U' m' T O := by
 obtain ⟨U', t, k⟩ := ho.get
 refine ⟨U', t, ⟨by rw [t.1.block br h.lt h.nu]; exact h.obj, k, fun e => ?_, h.nk⟩⟩
 rcases t.2 br e with h1 | h1
 ·exact h.nu h1
 ·have := h.lt
  omega
theorem RunAt.setT (h : RunAt w br l U m T O) (T' : Int) : RunAt (w.setCell ⟨br, 1, none⟩ (.int .i64 T')) br l U m T' O :=
 ⟨by rw [heap_setCell_self h.obj]; rfl, h.kk.mod (mod_set w br 1 _) (fun k hk e => h.nu (by rw [← e]; exact hk)) (fun k hk e => h.nk (by rw [← e]; exact hk)), h.nu, h.nk⟩
theorem RunAt.setO (h : RunAt w br l U m T O) (O' : Int) : RunAt (w.setCell ⟨br, 2, none⟩ (.int .i64 O')) br l U m T O' :=
 ⟨by rw [heap_setCell_self h.obj]; rfl, h.kk.mod (mod_set w br 2 _) (fun k hk e => h.nu (by rw [← e]; exact hk)) (fun k hk e => h.nk (by rw [← e]; exact hk)), h.nu, h.nk⟩
def RunOut (w : World) (br : Nat) (l : Lay) (U : Nat → Prop) (m' : MS) (T' O' : Int) (w' : World) : Prop := Mod (fun k => U k ∨ k = br) w w' ∧ ∃ U', RunAt w' br l U' m' T' O' ∧ ∀ k, U' k → U k ∨ w.heap.size ≤ k
theorem RunOut.refl (h : RunAt w br l U m T O) : RunOut w br l U m T O w := ⟨Mod.refl _ _, U, h, fun _ h => .inl h⟩
theorem RunOut.via {w'' : World} {m'' : MS} {T'' O'' : Int} {U' : Nat → Prop} (a : Mod (fun k => U k ∨ k = br) w w') (c : ∀ k, U' k → U k ∨ w.heap.size ≤ k) (h2 : RunOut w' br l U' m'' T'' O'' w'') : RunOut w br l U m'' T'' O'' w'' := by
 obtain ⟨d, U2, e, f⟩ := h2
 refine ⟨a.trans d (fun k hk => ?_), U2, e, fun k hk => ?_⟩
 ·rcases hk with h | h
  ·rcases c k h with h1 | h1
   ·exact .inl (.inl h1)
   ·exact .inr h1
  ·exact .inl (.inr h)
 ·rcases f k hk with h | h
  ·exact c k h
  ·exact .inr (Nat.le_trans a.size h)
theorem RunOut.trans {w'' : World} {m'' : MS} {T'' O'' : Int} (h : RunOut w br l U m' T' O' w') (h2 : ∀ U', RunAt w' br l U' m' T' O' → RunOut w' br l U' m'' T'' O'' w'') : RunOut w br l U m'' T'' O'' w'' := by
 obtain ⟨a, U', b, c⟩ := h
 exact RunOut.via a c (h2 U' b)
theorem RunOut.after {w'' : World} (h : RunOut w br l U m' T' O' w') (hb : Below w'.heap.size w' w'') : RunOut w br l U m' T' O' w'' := h.trans fun U' hk => ⟨Mod.of_below _ hb, U', hk.below hb, fun _ h => .inl h⟩
theorem RunOut.ahead {w0 : World} (hb : Below w0.heap.size w0 w) (h : RunOut w br l U m' T' O' w') : RunOut w0 br l U m' T' O' w' := by
 obtain ⟨a, U', b, c⟩ := h
 refine ⟨(Mod.of_below _ hb).trans a (fun k hk => .inl hk), U', b, fun k hk => ?_⟩
 rcases c k hk with h | h
 ·exact .inl h
 ·exact .inr (Nat.le_trans hb.size h)
theorem RunAt.slot (h : RunAt w br l U m T O) (ho : MkOut w l U m' w') (O' : Int) : RunOut w br l U m' T O' (w'.setCell ⟨br, 2, none⟩ (.int .i64 O')) := by
 obtain ⟨U', t, k⟩ := h.on ho
 exact ⟨(t.1.mono (fun k _ hk => .inl hk)).setCell (.inl (.inr rfl)) _, U', k.setO O', t.2⟩
theorem RunOut.setT (h : RunOut w br l U m T O w') (T' : Int) : RunOut w br l U m T' O (w'.setCell ⟨br, 1, none⟩ (.int .i64 T')) :=
 h.trans fun U' k => ⟨(Mod.refl _ _).setCell (.inl (.inr rfl)) _, U', k.setT T', fun _ h => .inl h⟩
end
theorem Shp.tks {c : Cfg} (hc : CfgOk c) : ∀ (n : Nat) {m : MS}, Shp c m → Shp c (tks c n m)
 | 0, _, h => h
 | n + 1, _, h => Shp.tks hc n (h.ticks hc)
theorem slot_tick (c : Cfg) (i : Nat) : ∀ (f : Nat) (m : MS), (slotM c i f m).tick = m.tick
 | 0, _ => rfl
 | f + 1, m => by
  rw [slotM]
  split
  ·rfl
  ·rw [slot_tick c i f, step_tick]
   rfl
theorem wake_tick : ∀ (L : List Nat) (m : MS), (wakeM m L).tick = m.tick
 | [], _ => rfl
 | q :: r, m => (wake_tick r (m.modP q (dueP m.tick))).trans rfl
theorem tickM_tick (c : Cfg) (m : MS) : (tickM c m).tick = m.tick + 1 := by
 unfold tickM
 simp only [slot_tick, wake_tick]
theorem tks_snoc (c : Cfg) : ∀ (n : Nat) (m : MS), tks c (n + 1) m = tickM c (tks c n m)
 | 0, _ => rfl
 | n + 1, m => tks_snoc c n (tickM c m)
theorem own_snoc (c : Cfg) : ∀ (n : Nat) (m : MS) (o : Int), ownK c (n + 1) m o = (ownerM c (tks c n m) : Int)
 | 0, _, _ => rfl
 | n + 1, m, _ => own_snoc c n (tickM c m) (ownerM c m : Int)
theorem tks_tick (c : Cfg) : ∀ (n : Nat) (m : MS), (tks c n m).tick = m.tick + (n : Int)
 | 0, m => (Int.add_zero _).symm
 | n + 1, m => by
  rw [tks, tks_tick c n, tickM_tick]
  omega
section
variable {w : World} {br : Nat} {l : Lay} {U : Nat → Prop} {m : MS} {T O : Int}
set_option maxRecDepth 100000 in
set_option maxHeartbeats 4000000 in
theorem rtick_any (h : RunAt w br l U m T O) (hs : Shp l.c m) (hc : CfgOk l.c) (n : Nat) (k v : Int) (h1 : 1 ≤ n) (hT0 : 0 ≤ T) (hT : T + n ≤ 65536) (ht : m.tick ≤ 65536) :
  Calls Tryz.prog 37 #[.pointer (some ⟨br, 0, none⟩), .agg #[.int .i64 k, .int .i64 n, .int .i64 v]] w fun e w' => e = .returned (.int .i64 0) ∧ RunOut w br l U (tks l.c n m) (T + n) (ownK l.c n m O) w' := by
 have hb0 := below_al w (.cells #[.int .i64 k, .int .i64 n, .int .i64 v] 32)
 have hx := heap_alloc_new w (.cells #[.int .i64 k, .int .i64 n, .int .i64 v] 32)
 have ht0 := hs.t0
 obtain ⟨W0, hW0⟩ : ∃ W, Hid (w.alloc (.cells #[.int .i64 k, .int .i64 n, .int .i64 v] 32) = W) := ⟨_, rfl⟩
 rw [hW0.out] at hb0 hx
 obtain ⟨bx, hbx⟩ : ∃ n, Hid (w.heap.size = n) := ⟨_, rfl⟩
 have h0 := h.below hb0
 have hne : ¬ (U bx ∨ bx = br) := by
  rintro (e | e)
  ·have := h.kk.lt bx e
   have := hbx.out
   omega
  ·have := h.lt
   have := hbx.out
   omega
 rw [hbx.out] at hx
 have HX : Hid (∀ W m' T' O', RunOut W0 br l U m' T' O' W → W.cell? ⟨bx, 1, none⟩ = some (.int .i64 n)) := hd (fun W m' T' O' ho => by
  have e := ho.1.block bx (Array.getElem?_eq_some_iff.1 hx).1 hne
  rw [cell_of_row _ _ _ _ _ _ (e.trans hx)]
  rfl)
 have HRD : Hid (∀ d, RunOut W0 br l U m T O (W0.drewN d)) := hd (fun d => (RunOut.refl h0).after (below_draw W0 d))
 have a1 := HX.out _ _ _ _ (RunOut.refl h0)
 have c1 := h0.c1
 have HB0 := hd hb0
 have HS := hd hs
 have HC := hd hc
 have HT := hd ht
 have hn1 : decide ((n : Int) < 1) = false := by simp; omega
 have hn2 : (n : Int) ≤ 65536 - T := by omega
 have hn3 : decide (65536 - T < (n : Int)) = false := by simp; omega
 clear h hs hc hb0 hx h0 hne ht
 obtain ⟨Q, hQ⟩ : ∃ Q : World → Prop, Hid (RunOut w br l U (tks l.c n m) (T + n) (ownK l.c n m O) = Q) := ⟨_, rfl⟩
 rw [hQ.out]
 go_enter Tryz.func37, Tryz.ntmps37
 go_upto_region 1 with fail
 rw [hW0.out, hbx.out]
 go_upto_region 3 with fail
 go_quiet (fail)
 have HR0 := hd (HRD.out nq)
 have a2 := HX.out _ _ _ _ HR0.out
 clear c1 a1 HRD
 go_wp2_with fail
 clear a2
 go_loopg [18] n (fun g v18 wr => ∃ i : Nat, v18 = .int .i64 (i : Int) ∧ i + g = n ∧ Hid (RunOut W0 br l U (tks l.c i m) T (ownK l.c i m O) wr))
 case atStart => exact ⟨0, rfl, by omega, HR0⟩
 case round =>
  obtain ⟨i, rfl, hin, HI⟩ := hrel
  clear HR0
  by_cases hlt : i < n
  ·have hlt' : (i : Int) < (n : Int) := by omega
   obtain ⟨hm, U1, k1, hu⟩ := HI.out
   have hsi := Shp.tks HC.out i HS.out
   have htk := tick_m k1.kk hsi HC.out (by rw [tks_tick]; have := HT.out; omega)
   have c0 := k1.c0
   rw [← tks_snoc] at htk
   have HN : Hid (∀ w2, MkOut wr l U1 (tks l.c (i + 1) m) w2 → (∃ o, w2.cell? ⟨br, 2, none⟩ = some o) ∧ w2.frozen? ⟨br, 2, none⟩ = false ∧ Hid (RunOut W0 br l U (tks l.c (i + 1) m) T (ownK l.c (i + 1) m O) (w2.setCell ⟨br, 2, none⟩ (.int .i64 (ownerM l.c (tks l.c i m) : Int))))) := hd (fun w2 ho => by
    obtain ⟨U2, t2, k2⟩ := k1.on ho
    refine ⟨⟨_, k2.c2⟩, k2.fr 2, hd ?_⟩
    rw [own_snoc]
    exact RunOut.via hm hu (k1.slot ho _))
   obtain ⟨p, hp⟩ : ∃ p, Hid (ownerM l.c (tks l.c i m) = p) := ⟨_, rfl⟩
   rw [hp.out] at htk HN
   obtain ⟨N, hN⟩ : ∃ N : World → Prop, Hid (MkOut wr l U1 (tks l.c (i + 1) m) = N) := ⟨_, rfl⟩
   rw [hN.out] at htk HN
   clear hm k1 hu hsi HI hN
   go_upto_region 7 with fail
   go_wp2_with (go_at_call 81; (with_reducible refine htk.mono ?_); rintro e w2 ⟨rfl, ho⟩; obtain ⟨⟨o, d2⟩, df, HO⟩ := HN.out w2 ho; clear htk)
   go_roundg (gk - 1)
   case rel => exact ⟨i + 1, by go_num, by omega, HO⟩
   case measure => omega
  ·obtain rfl : i = n := by omega
   obtain ⟨hm, U1, k1, hu⟩ := HI.out
   have c1 := k1.c1
   have cf := k1.fr 1
   have a1 := HX.out _ _ _ _ HI.out
   have HO : Hid (∀ d, RunOut w br l U (tks l.c i m) (T + i) (ownK l.c i m O) ((wr.drewN d).setCell ⟨br, 1, none⟩ (.int .i64 (T + i)))) := hd (fun d => RunOut.ahead HB0.out (RunOut.setT (HI.out.after (below_draw wr d)) _))
   rw [hQ.out] at HO
   clear hm k1 hu HI hQ HX
   go_upto_region 9 with fail
   go_region
   all_goals (
    go_wp2_with fail
    go_ret
    exact ⟨rfl, HO.out 1⟩)
end
end Go.Proofs.YthhcecllejddeaaGreatDoor

namespace Go.Proofs.YthhcecllejddeaaGreatDoor
open Go.RowKit
def BtOut (w : World) (c : Cfg) (E : Ending) (w' : World) : Prop := ∃ br l U, E = .returned (.tuple #[.pointer (some ⟨br, 0, none⟩), .int .i64 0, .int .i64 0]) ∧ RunAt w' br l U (firstM c) 0 (-1) ∧ l.c = c ∧ (∀ k, U k → w.heap.size ≤ k) ∧ w.heap.size ≤ br ∧ Below w.heap.size w w'
set_option maxRecDepth 100000 in
set_option maxHeartbeats 4000000 in
theorem boot_ok (c : Cfg) (a : Option Addr) (n cap : Nat) (bs : List Nat) (w : World) (hn : bs.length = n) (hR : Rd w a (bCells bs)) (hb : Byte bs) (hcap : n ≤ cap) (hF : Fld w) (hL : Lim w) (hd' : decF bs = (c, 0, 0)) (hm : (mayC c).1 = 0) (hlab : ∀ x ∈ c.labels, x < 18446744073709551616) (hj : ∀ p, p < c.procs.length → Cpu.Jmp (cd c p)) :
  Calls Tryz.prog 10 #[.slice a n cap] w (BtOut w c) := by
 have hdec := cdecode_any a cap bs w hR hb (by omega) hF hL
 rw [hn] at hdec
 have HF := hd hF
 have HL := hd hL
 have HD : Hid (∀ e w', DecOut w bs e w' → ∃ g, e = .returned (.tuple #[cfV c g, .int .i64 0, .int .i64 0]) ∧ Hid (CfR w' c g ∧ Below w.heap.size w w')) := hd (by
  rintro e w' ⟨g, rfl, h2, h3⟩
  rw [hd'] at h2 ⊢
  exact ⟨g, rfl, hd ⟨h2.rd, h3⟩⟩)
 have HNW : Hid (∀ W g, CfR W c g → Below w.heap.size w W → Calls Tryz.prog 19 #[cfV c g] W (NwOut W c)) := hd (fun W g hr hb => new_ok c g W hr (Fld.mod HF.out (Mod.of_below (fun _ => False) hb) (fun h => h)) (Lim.mod HL.out (Mod.of_below (fun _ => False) hb) (fun h => h)) hm hlab hj)
 obtain ⟨N, hN⟩ : ∃ N : Ending → World → Prop, Hid (DecOut w bs = N) := ⟨_, rfl⟩
 obtain ⟨Q, hQ⟩ : ∃ Q, Hid (BtOut w c = Q) := ⟨_, rfl⟩
 rw [hN.out] at hdec HD
 rw [hQ.out]
 have HE : Hid (∀ (W : World) e W', Below w.heap.size w W → NwOut W c e W' → ∃ bm, e = .returned (.tuple #[.pointer (some ⟨bm, 0, none⟩), .int .i64 0]) ∧ Hid (Q (.returned (.tuple #[.pointer (some ⟨W'.heap.size, 0, none⟩), .int .i64 0, .int .i64 0])) (W'.alloc (.cells #[.pointer (some ⟨bm, 0, none⟩), .int .i64 0, .int .i64 (-1)] 72)))) := hd (by
  rintro W e W' hb ⟨l, U, rfl, k1, k2, k3, -, k5⟩
  refine ⟨l.bm, rfl, hd ?_⟩
  rw [← hQ.out]
  have hb2 := hb.trans (k5.mono hb.size)
  have hb3 := below_al W' (.cells #[.pointer (some ⟨l.bm, 0, none⟩), .int .i64 0, .int .i64 (-1)] 72)
  refine ⟨W'.heap.size, l, U, rfl, ⟨heap_alloc_new W' _, k1.below hb3, fun e => ?_, fun e => ?_⟩, k2, fun k hk => Nat.le_trans hb.size (k3 k hk), hb2.size, hb2.trans (hb3.mono hb2.size)⟩
  ·have := k1.lt _ e
   omega
  ·have := k1.base.klt _ e
   omega)
 clear hR hb hcap hF hL hd' hm hlab hj hn hN hQ HF HL
 go_enter Tryz.func10, Tryz.ntmps10
 go_upto_region 1 with fail
 go_wp2_with (first
  | (go_at_call 18; (with_reducible refine hdec.mono ?_); rintro e w1 he; obtain ⟨g, rfl, H1⟩ := HD.out e w1 he; clear he hdec HD; have hb1 := H1.out.2.trans ((below_al w1 (.cells (cfA c g) 27)).mono H1.out.2.size); have hnw := HNW.out (w1.alloc (.cells (cfA c g) 27)) g (H1.out.1.below (below_al _ _)) hb1; replace HE := hd (fun e W' h => HE.out _ e W' hb1 h); obtain ⟨N, hN⟩ : ∃ N : Ending → World → Prop, Hid (NwOut (w1.alloc (.cells (cfA c g) 27)) c = N) := ⟨_, rfl⟩; rw [hN.out] at hnw HE; unfold cfV cfA at hnw; clear hN HNW H1 hb1; unfold cfV cfA)
  | (go_at_call 19; (with_reducible refine hnw.mono ?_); rintro e w2 he; obtain ⟨bm, rfl, HO⟩ := HE.out e w2 he; clear he hnw HE))
 go_ret3
 exact HO.out
theorem RunAt.same {w w' : World} {br : Nat} {l : Lay} {U : Nat → Prop} {m : MS} {T O : Int} (h : RunAt w br l U m T O) (hb : Below w.heap.size w w') : RunOut w br l U m T O w' := (RunOut.refl h).after hb
def ansV (e T O : Int) : Value := .agg #[.int .i64 e, .int .i64 T, .int .i64 O]
section
variable {w : World} {br : Nat} {l : Lay} {U : Nat → Prop} {m : MS} {T O : Int}
set_option maxRecDepth 100000 in
set_option maxHeartbeats 4000000 in
theorem rkill_no (h : RunAt w br l U m T O) (k p v : Int) (e1 : liveE l.c m p ≠ 0) :
  Calls Tryz.prog 39 #[.pointer (some ⟨br, 0, none⟩), .agg #[.int .i64 k, .int .i64 p, .int .i64 v]] w fun e w' => e = .returned (.int .i64 (liveE l.c m p)) ∧ Below w.heap.size w w' := by
 have hb0 := below_al w (.cells #[.int .i64 k, .int .i64 p, .int .i64 v] 32)
 have hx := heap_alloc_new w (.cells #[.int .i64 k, .int .i64 p, .int .i64 v] 32)
 obtain ⟨W0, hW0⟩ : ∃ W, Hid (w.alloc (.cells #[.int .i64 k, .int .i64 p, .int .i64 v] 32) = W) := ⟨_, rfl⟩
 rw [hW0.out] at hb0 hx
 have h0 := h.below hb0
 have c0 := h0.c0
 have hki := fun d => (kill_no (h0.below (below_draw W0 d)).kk p e1).mono fun e w' (h : e = _ ∧ _ = w') => And.intro h.1 h.2.symm
 have a1 : W0.cell? ⟨w.heap.size, 1, none⟩ = some (.int .i64 p) := by rw [cell_of_row _ _ _ _ _ _ hx]; rfl
 have HB : Hid (∀ d, Below w.heap.size w (W0.drewN d)) := hd (fun d => hb0.trans ((below_draw W0 d).mono hb0.size))
 generalize liveE l.c m p = E at *
 clear h h0 e1 hb0 hx
 go_enter Tryz.func39, Tryz.ntmps39
 go_upto_region 1 with fail
 rw [hW0.out]
 clear hW0
 go_quiet (first | (go_at_call 83; exact Calls.quiet_of_same (hki _)))
 go_wp2_with fail
 go_ret
 exact ⟨rfl, HB.out _⟩
end
end Go.Proofs.YthhcecllejddeaaGreatDoor

namespace Go.Proofs.YthhcecllejddeaaGreatDoor
open Go.RowKit
section
variable {w w' W W' W2 : World} {br b2 : Nat} {l : Lay} {U : Nat → Prop} {m m' : MS} {T O T' O' : Int}
theorem RunOut.fin (h : RunAt w br l U m T O) (hb : Below w.heap.size w W) (ho : RunOut W br l U m' T' O' W') (h2 : w.heap.size ≤ b2) (h3 : b2 < W.heap.size) (hm : Mod (fun k => k = b2) W' W2) : RunOut w br l U m' T' O' W2 := by
 obtain ⟨a, U', k, c⟩ := RunOut.ahead hb ho
 obtain ⟨om, V, o1, o2⟩ := ho
 have hlt := h.lt
 have hnV : ¬ V b2 := fun e => by
  rcases o2 b2 e with h1 | h1
  ·have := h.kk.lt b2 h1
   omega
  ·omega
 have hnK : ¬ l.K b2 := fun e => by
  have := h.kk.base.klt b2 e
  omega
 refine ⟨a.trans hm (fun k e => .inr (by rw [e]; exact h2)), V, ⟨(hm.block br o1.lt (fun e => by omega)).trans o1.obj, o1.kk.mod hm (fun k hk e => hnV (by rw [← e]; exact hk)) (fun k hk e => hnK (by rw [← e]; exact hk)), o1.nu, o1.nk⟩, fun k hk => ?_⟩
 rcases o2 k hk with e | e
 ·exact .inl e
 ·exact .inr (Nat.le_trans hb.size e)
theorem box3 {W : World} {b : Nat} {t : TypeId} {x0 x1 x2 : Value} (h : W.heap[b]? = some (.cells #[x0, x1, x2] t (0, 0))) (u0 u1 u2 : Value) : (((W.setCell ⟨b, 0, none⟩ u0).setCell ⟨b, 1, none⟩ u1).setCell ⟨b, 2, none⟩ u2).heap[b]? = some (.cells #[u0, u1, u2] t (0, 0)) := by
 rw [heap_setCell_self (heap_setCell_self (heap_setCell_self h _) _)]
 rfl
set_option maxRecDepth 100000 in
set_option maxHeartbeats 4000000 in
theorem do_tick (h : RunAt w br l U m T O) (hs : Shp l.c m) (hc : CfgOk l.c) (n : Nat) (v : Int) (h1 : 1 ≤ n) (hT0 : 0 ≤ T) (hT : T + n ≤ 65536) (ht : m.tick ≤ 65536) :
  Calls Tryz.prog 11 #[.pointer (some ⟨br, 0, none⟩), .agg #[.int .i64 1, .int .i64 n, .int .i64 v]] w fun e w' => e = .returned (ansV 0 (T + n) (ownK l.c n m O)) ∧ RunOut w br l U (tks l.c n m) (T + n) (ownK l.c n m O) w' := by
 have hb0 := below_al w (.cells #[.int .i64 1, .int .i64 n, .int .i64 v] 32)
 have hx := heap_alloc_new w (.cells #[.int .i64 1, .int .i64 n, .int .i64 v] 32)
 obtain ⟨W0, hW0⟩ : ∃ W, Hid (w.alloc (.cells #[.int .i64 1, .int .i64 n, .int .i64 v] 32) = W) := ⟨_, rfl⟩
 rw [hW0.out] at hb0 hx
 have hb1 := below_al W0 (.cells #[.int .i64 0, .int .i64 0, .int .i64 0] 42)
 have hy := heap_alloc_new W0 (.cells #[.int .i64 0, .int .i64 0, .int .i64 0] 42)
 obtain ⟨W1, hW1⟩ : ∃ W, Hid (W0.alloc (.cells #[.int .i64 0, .int .i64 0, .int .i64 0] 42) = W) := ⟨_, rfl⟩
 rw [hW1.out] at hb1 hy
 have hs0 : W0.heap.size = w.heap.size + 1 := by rw [← hW0.out]; simp
 have hb2 := hb0.trans (hb1.mono hb0.size)
 have hdd := deeds_any W1.drew
 have hlt := h.lt
 rw [hs0] at hy
 obtain ⟨bx, hbx⟩ : ∃ n, Hid (w.heap.size = n) := ⟨_, rfl⟩
 rw [hbx.out] at hx hy hs0 hlt
 have hx1 := (hb1.block bx (by omega)).trans hx
 obtain ⟨b2, hb2e⟩ : ∃ n, Hid (bx + 1 = n) := ⟨_, rfl⟩
 rw [hb2e.out] at hy
 have HA : Hid (∀ W, Below W1.drew.heap.size W1.drew W → Hid (RunAt W br l U m T O) ∧ W.cell? ⟨bx, 0, none⟩ = some (.int .i64 1) ∧ W.cell? ⟨bx, 1, none⟩ = some (.int .i64 n) ∧ W.cell? ⟨bx, 2, none⟩ = some (.int .i64 v) ∧ Hid (W.heap[b2]? = some (.cells #[.int .i64 0, .int .i64 0, .int .i64 0] 42 (0, 0)))) := hd (fun W hb => by
  have hbW : Below W1.heap.size W1 W := bel_dr hb
  have hx2 := (hbW.block bx (by have := hb1.size; omega)).trans hx1
  have hy2 := (hbW.block b2 (Array.getElem?_eq_some_iff.1 hy).1).trans hy
  exact ⟨hd ((h.below hb2).below hbW), cell_of_row _ _ _ _ _ _ hx2, cell_of_row _ _ _ _ _ _ hx2, cell_of_row _ _ _ _ _ _ hx2, hd hy2⟩)
 have HE : Hid (∀ (W W' : World), Below W1.drew.heap.size W1.drew W → RunOut W br l U (tks l.c n m) (T + n) (ownK l.c n m O) W' → W'.cell? ⟨br, 1, none⟩ = some (.int .i64 (T + n)) ∧ W'.cell? ⟨br, 2, none⟩ = some (.int .i64 (ownK l.c n m O)) ∧ Hid (W'.heap[b2]? = some (.cells #[.int .i64 0, .int .i64 0, .int .i64 0] 42 (0, 0))) ∧ Hid (∀ W2, Mod (fun k => k = b2) W' W2 → RunOut w br l U (tks l.c n m) (T + n) (ownK l.c n m O) W2)) := hd (fun W W' hb ho => by
  have hyW := (HA.out W hb).2.2.2.2.out
  have hbw : Below w.heap.size w W := hb2.trans ((bel_dr hb).mono hb2.size)
  have hl2 : b2 < W.heap.size := (Array.getElem?_eq_some_iff.1 hyW).1
  obtain ⟨om, U', o1, o2⟩ := id ho
  have hnb : ¬ (U b2 ∨ b2 = br) := fun e => by
   have := hb2e.out
   rcases e with e | e
   ·have := h.kk.lt b2 e
    have := hbx.out
    omega
   ·omega
  exact ⟨o1.c1, o1.c2, hd ((om.block b2 hl2 hnb).trans hyW), hd (fun W2 hm => RunOut.fin h hbw ho (by have := hb2e.out; have := hbx.out; omega) hl2 hm)⟩)
 have HC : Hid (∀ W, RunAt W br l U m T O → Calls Tryz.prog 37 #[.pointer (some ⟨br, 0, none⟩), .agg #[.int .i64 1, .int .i64 n, .int .i64 v]] W fun e w' => e = .returned (.int .i64 0) ∧ RunOut W br l U (tks l.c n m) (T + n) (ownK l.c n m O) w') := hd (fun W h => rtick_any h hs hc n 1 v h1 hT0 hT ht)
 obtain ⟨Q, hQ⟩ : ∃ Q : World → Prop, Hid (RunOut w br l U (tks l.c n m) (T + n) (ownK l.c n m O) = Q) := ⟨_, rfl⟩
 rw [hQ.out] at HE ⊢
 have HNE : ¬ b2 = br := by
  have := hb2e.out
  omega
 unfold ansV
 have z0 := (HA.out W1.drew (Below.refl _ _)).2.1
 clear h hb0 hx hb1 hy hb2 hx1 hs0 hs hc h1 hT0 hT ht
 go_enter Tryz.func11, Tryz.ntmps11
 go_upto_region 2 with fail
 rw [hW0.out, hW1.out, hbx.out, hb2e.out]
 clear hW0 hW1
 have x0 : W1.cell? ⟨bx, 0, none⟩ = some (.int .i64 1) := z0
 go_region_law (first | (go_simp; (with_reducible refine hdd.mono ?_); rintro e w2 ⟨bd, rfl, hD, hbd⟩; clear hdd; have hlk := look_tick hD; obtain ⟨HR, y0, y1, y2, y3⟩ := HA.out w2 hbd; replace hbd := hd hbd; unfold fnV at hlk))
 all_goals (
  have hcl := HC.out w2 HR.out
  have HE2 := hd (fun W' h => HE.out w2 W' hbd.out h)
  obtain ⟨N, hN⟩ : ∃ N : World → Prop, Hid (RunOut w2 br l U (tks l.c n m) (T + n) (ownK l.c n m O) = N) := ⟨_, rfl⟩
  rw [hN.out] at hcl HE2
  clear hlk HC HA x0 z0 HR HE hN
  go_wp2_with (go_at_call 37; (with_reducible refine hcl.mono ?_); rintro e w3 ⟨rfl, ho⟩; clear hcl)
  obtain ⟨c1, c2, HY, HZ⟩ := HE2.out w3 ho
  have k0 := cell_of_row _ _ 0 _ _ _ HY.out
  have k1 := cell_of_row _ _ 1 _ _ _ HY.out
  have k2 := cell_of_row _ _ 2 _ _ _ HY.out
  have kf : ∀ i, w3.frozen? ⟨b2, i, none⟩ = false := fun i => by simp [World.frozen?, HY.out]
  obtain ⟨V, hV⟩ : ∃ V, Hid (((((w3.setCell ⟨b2, 0, none⟩ (.int .i64 0)).setCell ⟨b2, 1, none⟩ (.int .i64 (T + n))).setCell ⟨b2, 2, none⟩ (.int .i64 (ownK l.c n m O))).drew) = V) := ⟨_, rfl⟩
  have HQ : Hid (Q V) := hd (by
   rw [← hV.out]
   exact HZ.out _ (((mod_sets (mod_sets (mod_set _ _ _ _) _ _) _ _)).trans (Mod.of_below _ (bel_drew _)) (fun _ h => .inl h)))
  have HR3 : Hid (V.heap[b2]? = some (.cells #[.int .i64 0, .int .i64 (T + n), .int .i64 (ownK l.c n m O)] 42 (0, 0))) := hd (by
   rw [← hV.out]
   exact box3 (W := w3) HY.out _ _ _)
  clear HE2 ho HZ y0 y1 y2 y3
  go_region
  all_goals (
   go_wp2_with fail
   rw [hV.out]
   have j0 := cell_of_row _ _ 0 _ _ _ HR3.out
   have j1 := cell_of_row _ _ 1 _ _ _ HR3.out
   have j2 := cell_of_row _ _ 2 _ _ _ HR3.out
   refine bodyPost_ret (v := .agg #[.int .i64 0, .int .i64 (T + n), .int .i64 (ownK l.c n m O)]) ?_ rfl ⟨rfl, HQ.out⟩
   clear HQ HR3 c1 c2 k0 k1 k2 hV
   simp at j0 j1 j2
   simp [results, Tryz.results11, go_sem, j0, j1, j2]))
set_option maxRecDepth 100000 in
set_option maxHeartbeats 4000000 in
theorem do_kill (h : RunAt w br l U m T O) (p v : Int) (e1 : liveE l.c m p ≠ 0) :
  Calls Tryz.prog 11 #[.pointer (some ⟨br, 0, none⟩), .agg #[.int .i64 3, .int .i64 p, .int .i64 v]] w fun e w' => e = .returned (ansV (liveE l.c m p) T O) ∧ RunOut w br l U m T O w' := by
 have hb0 := below_al w (.cells #[.int .i64 3, .int .i64 p, .int .i64 v] 32)
 have hx := heap_alloc_new w (.cells #[.int .i64 3, .int .i64 p, .int .i64 v] 32)
 obtain ⟨W0, hW0⟩ : ∃ W, Hid (w.alloc (.cells #[.int .i64 3, .int .i64 p, .int .i64 v] 32) = W) := ⟨_, rfl⟩
 rw [hW0.out] at hb0 hx
 have hb1 := below_al W0 (.cells #[.int .i64 0, .int .i64 0, .int .i64 0] 42)
 have hy := heap_alloc_new W0 (.cells #[.int .i64 0, .int .i64 0, .int .i64 0] 42)
 obtain ⟨W1, hW1⟩ : ∃ W, Hid (W0.alloc (.cells #[.int .i64 0, .int .i64 0, .int .i64 0] 42) = W) := ⟨_, rfl⟩
 rw [hW1.out] at hb1 hy
 have hs0 : W0.heap.size = w.heap.size + 1 := by rw [← hW0.out]; simp
 have hb2 := hb0.trans (hb1.mono hb0.size)
 have hdd := deeds_any W1.drew
 have hlt := h.lt
 rw [hs0] at hy
 obtain ⟨bx, hbx⟩ : ∃ n, Hid (w.heap.size = n) := ⟨_, rfl⟩
 rw [hbx.out] at hx hy hs0 hlt
 have hx1 := (hb1.block bx (by omega)).trans hx
 obtain ⟨b2, hb2e⟩ : ∃ n, Hid (bx + 1 = n) := ⟨_, rfl⟩
 rw [hb2e.out] at hy
 have HA : Hid (∀ W, Below W1.drew.heap.size W1.drew W → Hid (RunAt W br l U m T O) ∧ W.cell? ⟨bx, 0, none⟩ = some (.int .i64 3) ∧ W.cell? ⟨bx, 1, none⟩ = some (.int .i64 p) ∧ W.cell? ⟨bx, 2, none⟩ = some (.int .i64 v) ∧ Hid (W.heap[b2]? = some (.cells #[.int .i64 0, .int .i64 0, .int .i64 0] 42 (0, 0)))) := hd (fun W hb => by
  have hbW : Below W1.heap.size W1 W := bel_dr hb
  have hx2 := (hbW.block bx (by have := hb1.size; omega)).trans hx1
  have hy2 := (hbW.block b2 (Array.getElem?_eq_some_iff.1 hy).1).trans hy
  exact ⟨hd ((h.below hb2).below hbW), cell_of_row _ _ _ _ _ _ hx2, cell_of_row _ _ _ _ _ _ hx2, cell_of_row _ _ _ _ _ _ hx2, hd hy2⟩)
 have HE : Hid (∀ (W W' : World), Below W1.drew.heap.size W1.drew W → RunOut W br l U m T O W' → W'.cell? ⟨br, 1, none⟩ = some (.int .i64 T) ∧ W'.cell? ⟨br, 2, none⟩ = some (.int .i64 O) ∧ Hid (W'.heap[b2]? = some (.cells #[.int .i64 0, .int .i64 0, .int .i64 0] 42 (0, 0))) ∧ Hid (∀ W2, Mod (fun k => k = b2) W' W2 → RunOut w br l U m T O W2)) := hd (fun W W' hb ho => by
  have hyW := (HA.out W hb).2.2.2.2.out
  have hbw : Below w.heap.size w W := hb2.trans ((bel_dr hb).mono hb2.size)
  have hl2 : b2 < W.heap.size := (Array.getElem?_eq_some_iff.1 hyW).1
  obtain ⟨om, U', o1, o2⟩ := id ho
  have hnb : ¬ (U b2 ∨ b2 = br) := fun e => by
   have := hb2e.out
   rcases e with e | e
   ·have := h.kk.lt b2 e
    have := hbx.out
    omega
   ·omega
  exact ⟨o1.c1, o1.c2, hd ((om.block b2 hl2 hnb).trans hyW), hd (fun W2 hm => RunOut.fin h hbw ho (by have := hb2e.out; have := hbx.out; omega) hl2 hm)⟩)
 have HC : Hid (∀ W, RunAt W br l U m T O → Calls Tryz.prog 39 #[.pointer (some ⟨br, 0, none⟩), .agg #[.int .i64 3, .int .i64 p, .int .i64 v]] W fun e w' => e = .returned (.int .i64 (liveE l.c m p)) ∧ RunOut W br l U m T O w') := hd (fun W h => (rkill_no h 3 p v e1).mono fun e w' hh => ⟨hh.1, h.same hh.2⟩)
 obtain ⟨Q, hQ⟩ : ∃ Q : World → Prop, Hid (RunOut w br l U m T O = Q) := ⟨_, rfl⟩
 rw [hQ.out] at HE ⊢
 have HNE : ¬ b2 = br := by
  have := hb2e.out
  omega
 unfold ansV
 have z0 := (HA.out W1.drew (Below.refl _ _)).2.1
 clear h hb0 hx hb1 hy hb2 hx1 hs0 e1
 go_enter Tryz.func11, Tryz.ntmps11
 go_upto_region 2 with fail
 rw [hW0.out, hW1.out, hbx.out, hb2e.out]
 clear hW0 hW1
 have x0 : W1.cell? ⟨bx, 0, none⟩ = some (.int .i64 3) := z0
 go_region_law (first | (go_simp; (with_reducible refine hdd.mono ?_); rintro e w2 ⟨bd, rfl, hD, hbd⟩; clear hdd; have hlk := look_kill hD; obtain ⟨HR, y0, y1, y2, y3⟩ := HA.out w2 hbd; replace hbd := hd hbd; unfold fnV at hlk))
 all_goals (
  have hcl := HC.out w2 HR.out
  have HE2 := hd (fun W' h => HE.out w2 W' hbd.out h)
  obtain ⟨N, hN⟩ : ∃ N : World → Prop, Hid (RunOut w2 br l U m T O = N) := ⟨_, rfl⟩
  rw [hN.out] at hcl HE2
  clear hlk HC HA x0 z0 HR HE hN
  go_wp2_with (go_at_call 39; (with_reducible refine hcl.mono ?_); rintro e w3 ⟨rfl, ho⟩; clear hcl)
  obtain ⟨c1, c2, HY, HZ⟩ := HE2.out w3 ho
  have k0 := cell_of_row _ _ 0 _ _ _ HY.out
  have k1 := cell_of_row _ _ 1 _ _ _ HY.out
  have k2 := cell_of_row _ _ 2 _ _ _ HY.out
  have kf : ∀ i, w3.frozen? ⟨b2, i, none⟩ = false := fun i => by simp [World.frozen?, HY.out]
  obtain ⟨V, hV⟩ : ∃ V, Hid (((((w3.setCell ⟨b2, 0, none⟩ (.int .i64 (liveE l.c m p))).setCell ⟨b2, 1, none⟩ (.int .i64 T)).setCell ⟨b2, 2, none⟩ (.int .i64 O)).drew) = V) := ⟨_, rfl⟩
  have HQ : Hid (Q V) := hd (by
   rw [← hV.out]
   exact HZ.out _ (((mod_sets (mod_sets (mod_set _ _ _ _) _ _) _ _)).trans (Mod.of_below _ (bel_drew _)) (fun _ h => .inl h)))
  have HR3 : Hid (V.heap[b2]? = some (.cells #[.int .i64 (liveE l.c m p), .int .i64 T, .int .i64 O] 42 (0, 0))) := hd (by
   rw [← hV.out]
   exact box3 (W := w3) HY.out _ _ _)
  clear HE2 ho HZ y0 y1 y2 y3
  go_region
  all_goals (
   go_wp2_with fail
   rw [hV.out]
   have j0 := cell_of_row _ _ 0 _ _ _ HR3.out
   have j1 := cell_of_row _ _ 1 _ _ _ HR3.out
   have j2 := cell_of_row _ _ 2 _ _ _ HR3.out
   refine bodyPost_ret (v := .agg #[.int .i64 (liveE l.c m p), .int .i64 T, .int .i64 O]) ?_ rfl ⟨rfl, HQ.out⟩
   clear HQ HR3 c1 c2 k0 k1 k2 hV
   simp at j0 j1 j2
   simp [results, Tryz.results11, go_sem, j0, j1, j2]))
end
end Go.Proofs.YthhcecllejddeaaGreatDoor
