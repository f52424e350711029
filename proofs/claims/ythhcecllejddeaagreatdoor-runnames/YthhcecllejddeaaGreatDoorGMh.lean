/- The end of a process: what comes of the rest. -/
import Derived.Test.YthhcecllejddeaaGreatDoorGMc
namespace Go.Proofs.YthhcecllejddeaaGreatDoor
open Go.RowKit
theorem take_snoc {α : Type} (L : List α) (i : Nat) (d : α) (h : i < L.length) : L.take (i + 1) = L.take i ++ [L.getD i d] := by
 rw [List.take_succ_eq_append_getElem h, List.getD_eq_getElem?_getD, List.getElem?_eq_getElem h]
 rfl
theorem getD_mem {α : Type} {L : List α} {i : Nat} {d : α} (h : i < L.length) : L.getD i d ∈ L := by
 rw [List.getD_eq_getElem?_getD, List.getElem?_eq_getElem h]
 exact List.getElem_mem h
theorem leave_snoc (m : MS) (p : Nat) (L : List Nat) (q : Nat) : leaveM m p (L ++ [q]) = (leaveM m p L).modP q fun x => { x with ss := (Lane.leaveP x.ss p).2 } := by
 unfold leaveM
 rw [List.foldl_append]
 rfl
theorem Shp.leaves {c : Cfg} (p : Nat) : ∀ (L : List Nat) {m : MS}, Shp c m → (∀ q ∈ L, q < c.procs.length) → Shp c (leaveM m p L)
 | [], _, h, _ => h
 | q :: r, m, h, hq => by
  have h1 : Shp c (m.modP q fun x => { x with ss := (Lane.leaveP x.ss p).2 }) := h.lanes (hq q List.mem_cons_self) ((h.ls (hq q List.mem_cons_self)).leave p) (fun _ => rfl) (fun _ => rfl)
  exact Shp.leaves p r h1 (fun x hx => hq x (List.mem_cons_of_mem _ hx))
def givesM (m : MS) (out : List (Int × Int)) : MS := out.foldl (fun m g => givenM m g.2) m
def tellsM (c : Cfg) (m : MS) (ws : List (Int × Int)) : MS := ws.foldl (fun m x => toldM c m x.1.toNat 2) m
theorem gives_snoc (m : MS) (L : List (Int × Int)) (g : Int × Int) : givesM m (L ++ [g]) = givenM (givesM m L) g.2 := by
 unfold givesM
 rw [List.foldl_append]
 rfl
theorem tells_snoc (c : Cfg) (m : MS) (L : List (Int × Int)) (g : Int × Int) : tellsM c m (L ++ [g]) = toldM c (tellsM c m L) g.1.toNat 2 := by
 unfold tellsM
 rw [List.foldl_append]
 rfl
theorem Shp.gives {c : Cfg} : ∀ (L : List (Int × Int)) {m : MS}, Shp c m → (∀ g ∈ L, g.2 = -1 ∨ isNo c g.2) → Shp c (givesM m L)
 | [], _, h, _ => h
 | g :: r, _, h, hg => Shp.gives r (h.given (hg g List.mem_cons_self)) (fun x hx => hg x (List.mem_cons_of_mem _ hx))
theorem Shp.tells {c : Cfg} : ∀ (L : List (Int × Int)) {m : MS}, Shp c m → (∀ g ∈ L, isNo c g.1) → Shp c (tellsM c m L)
 | [], _, h, _ => h
 | g :: r, _, h, hg => Shp.tells r (h.told (no_to (hg g List.mem_cons_self)) 2) (fun x hx => hg x (List.mem_cons_of_mem _ hx))
def end0 (m : MS) (p : Nat) (st : Int) : MS := m.modP p fun x => { x with st := st, fired := false }
def end1 (c : Cfg) (m : MS) (p : Nat) (st : Int) : MS := leaveM (end0 m p st) p (ofL c (pa c p))
def endR (c : Cfg) (m1 : MS) (p : Nat) : List Int × List (List Int) × List (Int × Int) := Locks.endA (ptOf m1 (pa c p)).os (ptOf m1 (pa c p)).qs p
def end2 (c : Cfg) (m1 : MS) (p : Nat) : MS := m1.modT (pa c p) fun t => { t with os := (endR c m1 p).1, qs := (endR c m1 p).2.1 }
def end4 (m3 : MS) (p : Nat) : MS := m3.modP p fun x => { x with ss := (Lane.endP (prOf m3 p).ss).2 }
theorem endM_eq (c : Cfg) (m : MS) (p : Nat) (st : Int) : endM c m p st =
    (let m1 := end1 c m p st
     let m3 := (givesM (end2 c m1 p) (endR c m1 p).2.2).modP p fun x => { x with timer := 0, wake := 0 }
     tellsM c (end4 m3 p) (Lane.endP (prOf m3 p).ss).1) := rfl
theorem Shp.end2 {c : Cfg} {m : MS} (h : Shp c m) (hc : CfgOk c) {p : Nat} (hp : p < c.procs.length) : Shp c (end2 c m p) ∧ ∀ g ∈ (endR c m p).2.2, g.2 = -1 ∨ isNo c g.2 := by
 have ho := (h.lks (hc.pa_lt hp)).over hc p
 exact ⟨h.modL (hc.pa_lt hp) ho.1 (fun _ => rfl) (fun _ => rfl) (fun _ => rfl) (fun _ => rfl), ho.2⟩
theorem Shp.end3 {c : Cfg} {m : MS} (h : Shp c m) {p : Nat} (hp : p < c.procs.length) : Shp c (m.modP p fun x => { x with timer := 0, wake := 0 }) :=
 h.modP hp (h.ls hp) ⟨⟨Int.le_refl 0, by have := h.t0; simp only; omega⟩, Int.le_refl 0, by have := h.t0; simp only; omega⟩
theorem Shp.end4 {c : Cfg} {m : MS} (h : Shp c m) {p : Nat} (hp : p < c.procs.length) : Shp c (end4 m p) ∧ ∀ g ∈ (Lane.endP (prOf m p).ss).1, isNo c g.1 := by
 refine ⟨h.lanes hp (h.ls hp).over (fun _ => rfl) (fun _ => rfl), fun g hg => ?_⟩
 obtain ⟨s, hs, hx⟩ := List.mem_flatMap.1 hg
 exact h.wai p hp s hs g hx
theorem endF_len : ∀ (l os : List Int) (qs : List (List Int)) (out : List (Int × Int)), (Locks.endF l os qs out).2.2.length = out.length + l.length
 | [], _, _, _ => rfl
 | i :: r, os, qs, out => by
  unfold Locks.endF
  rw [endF_len r]
  simp
  omega
theorem endA_len (os : List Int) (qs : List (List Int)) (p : Int) : (Locks.endA os qs p).2.2.length ≤ os.length := by
 unfold Locks.endA
 rw [endF_len]
 have := Locks.holdTo_len os p os.length
 show [].length + (Locks.holdTo os p os.length).length ≤ os.length
 simpa using this
theorem wC_cell {w : World} {a : Option Addr} {out : List (Int × Int)} {e : TypeId} {n c : Nat} (hR : Row w e 2 a n c (Locks.wC out)) {i : Nat} (hi : i < out.length) : ∃ g, a = some ⟨g, 0, none⟩ ∧ w.cell? ⟨g, i * 2, none⟩ = some (.int .i64 (out.getD i (0, 0)).1) ∧ w.cell? ⟨g, i * 2 + 1, none⟩ = some (.int .i64 (out.getD i (0, 0)).2) := by
 have hl := hR.len
 have hl2 : (Locks.wC out).length = out.length * 2 := Locks.wC_len out
 have e1 := Locks.wC_at out i hi
 obtain ⟨g, rfl, h1⟩ := hR.cell (i * 2) (by omega)
 obtain ⟨g', e2, h2⟩ := hR.cell (i * 2 + 1) (by omega)
 cases e2
 exact ⟨g, rfl, by rw [h1, e1.1], by rw [h2, e1.2]⟩
structure Beside (w : World) (l : Lay) (U : Nat → Prop) (m : MS) (a : Option Addr) (n c : Nat) (out : List (Int × Int)) (e : TypeId) : Prop where
 ma : Mk w l U m
 row : Row w e 2 a n c (Locks.wC out)
 ap : ∀ k, blk a = some k → ¬ U k
theorem Beside.step {w w' : World} {l : Lay} {U U' : Nat → Prop} {m m' : MS} {a : Option Addr} {n c : Nat} {out : List (Int × Int)} {e : TypeId} (h : Beside w l U m a n c out e) (t : To w U w' U') (hk : Mk w' l U' m') : Beside w' l U' m' a n c out e :=
 ⟨hk, h.row.mod t.1 h.ap, fun k hk hu => by
  rcases t.2 k hu with h1 | h1
  ·exact h.ap k hk h1
  ·have := h.row.lt k hk
   omega⟩
theorem Beside.below {w w' : World} {l : Lay} {U : Nat → Prop} {m : MS} {a : Option Addr} {n c : Nat} {out : List (Int × Int)} {e : TypeId} (h : Beside w l U m a n c out e) (hb : Below w.heap.size w w') : Beside w' l U m a n c out e := ⟨h.ma.below hb, h.row.below hb, h.ap⟩
end Go.Proofs.YthhcecllejddeaaGreatDoor

namespace Go.Proofs.YthhcecllejddeaaGreatDoor
open Go.RowKit
section
variable {w w' : World} {l : Lay} {m : MS} {U : Nat → Prop} {p q i j : Nat}
set_option maxRecDepth 100000 in
set_option maxHeartbeats 8000000 in
theorem end_m (h : Mk w l U m) (hs : Shp l.c m) (hc : CfgOk l.c) (hp : p < l.c.procs.length) (st : Int) : Calls Tryz.prog 114 #[.pointer (some ⟨l.bm, 0, none⟩), .pointer (some ⟨l.bq p, 0, none⟩), .int .i64 st] w fun e w' => e = .returned (.tuple #[]) ∧ MkOut w l U (endM l.c m p st) w' := by
 have hpa := hc.pa_lt hp
 obtain ⟨M, hM⟩ : ∃ M, Hid (endM l.c m p st = M) := ⟨_, rfl⟩
 have HEQ : Hid (∀ m1, end1 l.c m p st = m1 → endM l.c m p st = tellsM l.c (end4 ((givesM (end2 l.c m1 p) (endR l.c m1 p).2.2).modP p fun x => { x with timer := 0, wake := 0 }) p) (Lane.endP (prOf ((givesM (end2 l.c m1 p) (endR l.c m1 p).2.2).modP p fun x => { x with timer := 0, wake := 0 }) p).ss).1) := hd (fun m1 e => by rw [endM_eq, e])
 rw [hM.out] at HEQ ⊢
 have c3 := (h.prC hp).c3
 have c13 := (h.prC hp).c13
 have fr := (h.prC hp).fr
 have HC := hd hc
 have HP := hd hp
 have HA := hd hpa
 have HS0 : Hid (Shp l.c (end0 m p st)) := hd (hs.modS hp (fun _ => rfl) (fun _ => rfl) (fun _ => rfl) (fun _ => rfl))
 have HE0 : Hid (MkOut w l U (end0 m p st) ((w.setCell ⟨l.bq p, 3, none⟩ (.int .i64 st)).setCell ⟨l.bq p, 13, none⟩ (.bool false))) := hd (h.putProc hs hp (f := fun x => { x with st := st, fired := false }) (fun _ => rfl) (fun _ => rfl) (fun _ => rfl) (fun _ => rfl) (mod_sets (mod_set _ _ _ _) _ _) (putF_at (putS_at (h.procAt hp) st) false))
 obtain ⟨mA, hmA⟩ : ∃ x, Hid (end0 m p st = x) := ⟨_, rfl⟩
 have HEQ2 : Hid (end1 l.c m p st = leaveM mA p (ofL l.c (pa l.c p))) := hd (by unfold end1; rw [hmA.out])
 rw [hmA.out] at HS0 HE0
 rw [HEQ2.out] at HEQ
 replace HEQ := hd (HEQ.out _ rfl)
 obtain ⟨n, hn⟩ : ∃ n, Hid ((ofL l.c (pa l.c p)).length = n) := ⟨_, rfl⟩
 have hn32 : n ≤ 32 := by have := ofL_len l.c (pa l.c p); have := hn.out; have := hc.p32; omega
 clear h hs hc hp hpa HEQ2 hmA hM
 go_enter Tryz.func114, Tryz.ntmps114
 go_upto_region 1 with fail
 obtain ⟨W, hW⟩ : ∃ W, Hid ((w.setCell ⟨l.bq p, 3, none⟩ (.int .i64 st)).setCell ⟨l.bq p, 13, none⟩ (.bool false) = W) := ⟨_, rfl⟩
 rw [hW.out] at HE0 ⊢
 clear hW c3 c13 fr
 obtain ⟨U0, t0, k0⟩ := HE0.out.get
 clear HE0
 have c1 := (k0.prC HP.out).c1
 have n1 := (k0.paC HA.out).2.1
 rw [hn.out] at n1
 obtain ⟨ar, har⟩ : ∃ a, Hid (l.ar (pa l.c p) = a) := ⟨_, rfl⟩
 rw [har.out] at n1
 have HH0 : Hid (∃ U1, To w U W U1 ∧ Mk W l U1 (leaveM mA p ((ofL l.c (pa l.c p)).take 0))) := hd ⟨U0, t0, by simpa [leaveM] using k0⟩
 clear t0 k0
 go_wp2_with fail
 go_loopg [27] n (fun k v27 wr => ∃ i : Nat, v27 = .int .i64 (i : Int) ∧ i + k = n ∧ Hid (∃ U1, To w U wr U1 ∧ Mk wr l U1 (leaveM mA p ((ofL l.c (pa l.c p)).take i))))
 case atStart => exact ⟨0, rfl, by omega, HH0⟩
 case round =>
  obtain ⟨i, rfl, hik, HH⟩ := hrel
  clear HH0 c1 n1
  by_cases hlt : i < n
  ·have hlt' : (i : Int) < (n : Int) := by omega
   have hil : i < (ofL l.c (pa l.c p)).length := by rw [hn.out]; exact hlt
   obtain ⟨U1, t1, k1⟩ := HH.out
   obtain ⟨g, ag, cg⟩ := k1.rowAt HA.out hil
   obtain ⟨q, hq⟩ : ∃ q, Hid ((ofL l.c (pa l.c p)).getD i 0 = q) := ⟨_, rfl⟩
   rw [hq.out] at cg
   have hqm : q ∈ ofL l.c (pa l.c p) := by rw [← hq.out]; exact ofL_at hil
   have hqn := (mem_ofL.1 hqm).1
   have HSi : Hid (Shp l.c (leaveM mA p ((ofL l.c (pa l.c p)).take i))) := hd (Shp.leaves p _ HS0.out (fun x hx => (mem_ofL.1 (List.mem_of_mem_take hx)).1))
   have x14 := (k1.prC hqn).c14
   have x0 := (k1.prC HP.out).c0
   obtain ⟨F, hF, hgo⟩ := k1.drew.lanes HSi.out hqn
   have hlv := Lane.pleave_any hF ((HSi.out.ls hqn).good.n2) (Nat.le_trans ((HSi.out.ls hqn).tot HC.out) (by decide)) p
   have HN : Hid (∀ w2, Lane.PsOut wr.drew 214 263 215 (l.bo q) F (Lane.leaveP (prOf (leaveM mA p ((ofL l.c (pa l.c p)).take i)) q).ss p).2 (prOf (leaveM mA p ((ofL l.c (pa l.c p)).take i)) q).lc w2 → ∃ U1, To w U w2 U1 ∧ Mk w2 l U1 (leaveM mA p ((ofL l.c (pa l.c p)).take (i + 1)))) := hd (fun w2 ho => by
    have h2 := (to_drew t1).out (hgo w2 (fun x => { x with ss := (Lane.leaveP x.ss p).2 }) (fun _ => rfl) (fun _ => rfl) (fun _ => rfl) (fun _ => rfl) (fun _ => rfl) ho)
    rw [take_snoc _ i 0 hil, hq.out, leave_snoc]
    obtain ⟨U2, t2, k2⟩ := h2.get
    exact ⟨U2, t2, k2⟩)
   obtain rfl : ar = some ⟨g, 0, none⟩ := har.out.symm.trans ag
   clear t1 k1 hF hgo HH hil hqm hqn HSi HEQ
   go_upto_region 4 with fail
   go_region_law (first | (go_simp; (with_reducible refine hlv.mono ?_); rintro e w2 ⟨rfl, ho⟩))
   all_goals (
    go_wp2_with fail
    go_roundg (gk - 1)
    case rel => exact ⟨i + 1, by go_num, by omega, hd (HN.out w2 ho)⟩
    case measure => omega)
  ·have hin : i = n := by omega
   subst hin
   obtain ⟨U1, t1, k1⟩ := HH.out
   rw [List.take_of_length_le (by have := hn.out; omega)] at k1
   have HS1 : Hid (Shp l.c (leaveM mA p (ofL l.c (pa l.c p)))) := hd (Shp.leaves p _ HS0.out (fun x hx => (mem_ofL.1 hx).1))
   obtain ⟨m1, hm1⟩ : ∃ x, Hid (leaveM mA p (ofL l.c (pa l.c p)) = x) := ⟨_, rfl⟩
   rw [hm1.out] at k1 HS1 HEQ
   clear hm1 HH HS0 hik hlt hn har
   have x1 := (k1.prC HP.out).c1
   have x0 := (k1.prC HP.out).c0
   have y6 := (k1.paC HA.out).2.2.2.2.2.1
   have HS2 := hd (HS1.out.end2 HC.out HP.out)
   obtain ⟨F, hF, hFU, hgo⟩ := k1.drew.lck HA.out
   have hen := Locks.end_any hF (Nat.le_trans ((HS1.out.lks HA.out).total HC.out) (by decide)) (fitL HC.out HP.out)
   have hpt : pa l.c p < m1.pt.length := by rw [HS1.out.np]; exact HA.out
   have HN2 : Hid (∀ e w2, Locks.EndOut wr.drew (l.bl (pa l.c p)) F (Locks.endA (ptOf m1 (pa l.c p)).os (ptOf m1 (pa l.c p)).qs p).1 (Locks.endA (ptOf m1 (pa l.c p)).os (ptOf m1 (pa l.c p)).qs p).2.1 (Locks.endA (ptOf m1 (pa l.c p)).os (ptOf m1 (pa l.c p)).qs p).2.2 e w2 →
     ∃ a c, e = .returned (.slice a (endR l.c m1 p).2.2.length c) ∧ Hid (∃ U2, To w U w2 U2 ∧ Beside w2 l U2 (end2 l.c m1 p) a (endR l.c m1 p).2.2.length c (endR l.c m1 p).2.2 256)) := hd (fun e w2 he => by
    obtain ⟨q1, F', a, c, rfl, q2, q3, q4, q5⟩ := he
    refine ⟨a, c, rfl, hd ?_⟩
    have h2 := MkOutR.of (A := fun k => blk a = some k) k1.drew hFU q3 (fun k hk => q5 k hk) (hgo w2 (end2 l.c m1 p) F' q1 (by unfold end2; rw [ptOf_same hpt]; exact q2) q3 (fun y hy => agr_lck (f := fun t => { t with os := (endR l.c m1 p).1, qs := (endR l.c m1 p).2.1 }) (fun _ => rfl) (fun _ => rfl) (fun _ => rfl) (fun _ => rfl) hpt hy))
    obtain ⟨r1, U2, r2, r3, r4⟩ := h2
    exact ⟨U2, (to_drew t1).trans ⟨r1, r3⟩, ⟨r2, q4, r4⟩⟩)
   obtain ⟨m2, hm2⟩ : ∃ x, Hid (end2 l.c m1 p = x) := ⟨_, rfl⟩
   obtain ⟨out, hout⟩ : ∃ x, Hid ((endR l.c m1 p).2.2 = x) := ⟨_, rfl⟩
   obtain ⟨N, hN⟩ : ∃ x, Hid (out.length = x) := ⟨_, rfl⟩
   rw [hm2.out] at HN2 HS2 HEQ
   rw [hout.out] at HN2 HS2 HEQ
   rw [hN.out] at HN2
   have hN9 : N ≤ 100000 := by
    have h8 := (HS1.out.lk _ HA.out).1.le
    have : out.length ≤ 8 := by
     rw [← hout.out]
     exact Nat.le_trans (endA_len _ _ _) h8
    have := hN.out
    omega
   obtain ⟨wo, hwo⟩ : ∃ x, Hid (wr = x) := ⟨_, rfl⟩
   clear t1 k1 hF hFU hgo hpt hm2 hout HS1
   go_upto_region 6 with fail
   go_cut [52, 53, 54] (fun v52 v53 v54 wy => ∃ a c, v52 = .slice a N c ∧ v53 = .int .i64 (N : Int) ∧ v54 = .int .i64 0 ∧ Hid (∃ U2, To w U wy U2 ∧ Beside wy l U2 m2 a N c out 256))
   case first =>
    go_region_law (first | (go_simp; (with_reducible refine hen.mono ?_); rintro e w2 he; obtain ⟨a, cc, rfl, HX⟩ := HN2.out e w2 he; clear he))
    all_goals (
     go_wp2_with fail
     go_meet
     case rel => exact ⟨a, cc, rfl, rfl, rfl, HX⟩)
   case rest =>
    obtain ⟨a, cc, rfl, rfl, rfl, HB⟩ := hcut
    clear hen HN2 x1 x0 y6
    have HB0 : Hid (∃ U2, To w U wc U2 ∧ Beside wc l U2 (givesM m2 (out.take 0)) a N cc out 256) := HB
    clear HB
    go_wp2_with fail
    go_loopg [54] N (fun k v54 wr => ∃ i : Nat, v54 = .int .i64 (i : Int) ∧ i + k = N ∧ Hid (∃ U2, To w U wr U2 ∧ Beside wr l U2 (givesM m2 (out.take i)) a N cc out 256))
    case atStart => exact ⟨0, rfl, by omega, HB0⟩
    case round =>
     obtain ⟨i, rfl, hik, HH⟩ := hrel
     clear HB0
     by_cases hlt : i < N
     ·have hlt' : (i : Int) < (N : Int) := by omega
      have hil : i < out.length := by rw [hN.out]; exact hlt
      obtain ⟨U2, t2, k2⟩ := HH.out
      obtain ⟨g, rfl, d0, d1⟩ := wC_cell k2.row hil
      obtain ⟨x, hx⟩ : ∃ x, Hid (out.getD i (0, 0) = x) := ⟨_, rfl⟩
      rw [hx.out] at d0 d1
      have HSi : Hid (Shp l.c (givesM m2 (out.take i))) := hd (Shp.gives _ HS2.out.1 (fun g hg => HS2.out.2 g (List.mem_of_mem_take hg)))
      have hxn : x.2 = -1 ∨ isNo l.c x.2 := HS2.out.2 x (by rw [← hx.out]; exact getD_mem hil)
      obtain ⟨V, hV⟩ : ∃ V, Hid (wr.alloc (.cells #[.int .i64 x.1, .int .i64 x.2] 256) = V) := ⟨_, rfl⟩
      obtain ⟨gb, hgb⟩ : ∃ g, Hid (wr.heap.size = g) := ⟨_, rfl⟩
      have hbv : Below wr.heap.size wr V := by rw [← hV.out]; exact below_al wr _
      have hob : V.heap[gb]? = some (.cells #[.int .i64 x.1, .int .i64 x.2] 256 (0, 0)) := by rw [← hV.out, ← hgb.out]; exact heap_alloc_new wr _
      have b1 : V.cell? ⟨gb, 1, none⟩ = some (.int .i64 x.2) := by rw [cell_of_row _ _ _ _ _ _ hob]; rfl
      have kV := k2.below hbv
      have hgv := given_m kV.ma HSi.out hxn
      have HN : Hid (∀ w3, MkOut V l U2 (givenM (givesM m2 (out.take i)) x.2) w3 → ∃ U3, To w U w3 U3 ∧ Beside w3 l U3 (givesM m2 (out.take (i + 1))) (some ⟨g, 0, none⟩) N cc out 256) := hd (fun w3 ho => by
       obtain ⟨U3, t3, k3⟩ := ho.get
       refine ⟨U3, (t2.bel hbv).trans t3, ?_⟩
       rw [take_snoc _ i (0, 0) hil, hx.out, gives_snoc]
       exact kV.step t3 k3)
      clear t2 k2 kV hbv hob HH HSi hxn HEQ
      go_upto_region 9 with fail
      rw [hV.out, hgb.out]
      go_wp2_with (go_at_call 154; refine hgv.mono ?_; rintro e w3 ⟨rfl, ho⟩; clear hgv)
      go_roundg (gk - 1)
      case rel => exact ⟨i + 1, by go_num, by omega, hd (HN.out w3 ho)⟩
      case measure => omega
     ·have hin : i = N := by omega
      subst hin
      obtain ⟨U2, t2, k2⟩ := HH.out
      have k2 := k2.ma
      rw [List.take_of_length_le (by have := hN.out; omega)] at k2
      have HS3 : Hid (Shp l.c (givesM m2 out)) := hd (Shp.gives _ HS2.out.1 HS2.out.2)
      obtain ⟨m3, hm3⟩ : ∃ x, Hid (givesM m2 out = x) := ⟨_, rfl⟩
      rw [hm3.out] at k2 HS3 HEQ
      clear hm3 HH HS2 hik hlt hN
      have hq3 : p < m3.pr.length := by rw [HS3.out.nq]; exact HP.out
      have hp32 := HC.out.p32
      have HPP := HP.out
      have x1 := (k2.prC HP.out).c1
      have y7 := (k2.paC HA.out).2.2.2.2.2.2.1
      have htn := tnum_any k2.drew HC.out HP.out
      have hcl := k2.drew.clearW HS3.out HC.out HP.out (2 * (p : Int)) (fun x => { x with timer := 0 }) (by omega) ⟨fun _ => rfl, fun _ => rfl, fun _ => rfl, fun _ => rfl, fun _ => rfl⟩ (fun L hL => wok_noTimer hL hq3)
      have HS4 : Hid (Shp l.c (m3.modP p fun x => { x with timer := 0 })) := hd (HS3.out.modP HP.out (HS3.out.ls HP.out) ⟨⟨Int.le_refl 0, by have := HS3.out.t0; simp only; omega⟩, (HS3.out.tim p HP.out).2⟩)
      have hm4 : ((m3.modP p fun x => { x with timer := 0 }).modP p fun x => { x with wake := 0 }) = m3.modP p fun x => { x with timer := 0, wake := 0 } := modP_modP hq3
      obtain ⟨m4, hm4'⟩ : ∃ x, Hid ((m3.modP p fun x => { x with timer := 0 }) = x) := ⟨_, rfl⟩
      rw [hm4'.out] at hcl HS4 hm4
      have hq4 : p < m4.pr.length := by rw [HS4.out.nq]; exact HP.out
      replace hm4 := hd hm4
      replace t2 := hd (to_drew t2)
      clear k2 hq3 hm4' HPP
      go_upto_region 11 with fail
      go_cut [72] (fun v72 wy => Hid (∃ U3, To w U wy U3 ∧ Mk wy l U3 m4))
      case first =>
       go_region_law (first
        | (go_simp; (with_reducible refine htn.mono ?_); rintro e w1 ⟨rfl, rfl⟩)
        | (go_simp; (with_reducible refine hcl.mono ?_); rintro e w2 ⟨⟨b, rfl⟩, ho⟩))
       all_goals (
        go_wp2_with fail
        go_meet
        case rel => exact hd (t2.out.out ho).get)
      case rest =>
       obtain ⟨U3, t3, k3⟩ := hcut.out
       clear hcut hcl htn x1 y7 t2
       have x1 := (k3.prC HP.out).c1
       have y7 := (k3.paC HA.out).2.2.2.2.2.2.1
       have htn := snum_any k3.drew HC.out HP.out
       have hcl := k3.drew.clearW HS4.out HC.out HP.out (2 * (p : Int) + 1) (fun x => { x with wake := 0 }) (by have := HP.out; omega) ⟨fun _ => rfl, fun _ => rfl, fun _ => rfl, fun _ => rfl, fun _ => rfl⟩ (fun L hL => wok_noWake hL hq4)
       rw [hm4.out] at hcl
       have HS5 := hd (HS3.out.end3 HP.out)
       obtain ⟨m5, hm5⟩ : ∃ x, Hid ((m3.modP p fun x => { x with timer := 0, wake := 0 }) = x) := ⟨_, rfl⟩
       rw [hm5.out] at hcl HS5 HEQ
       replace t3 := hd (to_drew t3)
       clear k3 hq4 hm4 hm5 HS4 HS3
       go_upto_region 12 with fail
       go_cut [82] (fun v82 wy => Hid (∃ U3, To w U wy U3 ∧ Mk wy l U3 m5))
       case first =>
        go_region_law (first
         | (go_simp; (with_reducible refine htn.mono ?_); rintro e w1 ⟨rfl, rfl⟩)
         | (go_simp; (with_reducible refine hcl.mono ?_); rintro e w2 ⟨⟨b, rfl⟩, ho⟩))
        all_goals (
         go_wp2_with fail
         go_meet
         case rel => exact hd (t3.out.out ho).get)
       case rest =>
        obtain ⟨U4, t4, k4⟩ := hcut.out
        clear hcut hcl htn x1 y7 t3
        have x14 := (k4.prC HP.out).c14
        obtain ⟨F, hF, hFU, hgo⟩ := k4.pst HP.out
        have hen := Lane.pend_any hF ((HS5.out.ls HP.out).good.n2) (Nat.le_trans ((HS5.out.ls HP.out).tot HC.out) (by decide))
        have hq5 : p < m5.pr.length := by rw [HS5.out.nq]; exact HP.out
        have HS6 := hd (HS5.out.end4 HP.out)
        have hlw := (HS5.out.ls HP.out).tot HC.out
        have HN4 : Hid (∀ e w2, Lane.EndOut wc 214 263 215 (l.bo p) F (prOf m5 p).ss (prOf m5 p).lc e w2 →
          ∃ a c, e = .returned (.slice a (Lane.endP (prOf m5 p).ss).1.length c) ∧ Hid (∃ U2, To w U w2 U2 ∧ Beside w2 l U2 (end4 m5 p) a (Lane.endP (prOf m5 p).ss).1.length c (Lane.endP (prOf m5 p).ss).1 259)) := hd (fun e w2 he => by
         obtain ⟨a, c, rfl, q1, q2, q3, F', q4, q5, q6⟩ := he
         refine ⟨a, c, rfl, hd ?_⟩
         have h2 := MkOutR.of (A := fun k => blk a = some k) k4 hFU q5 (fun k hk => ⟨q2 k hk, q6 k hk⟩) (hgo w2 (end4 m5 p) F' q3 (by unfold end4; rw [prOf_same hq5]; exact q4) q5 (fun y hy => agr_pst (f := fun x => { x with ss := (Lane.endP (prOf m5 p).ss).2 }) (fun _ => rfl) (fun _ => rfl) (fun _ => rfl) (fun _ => rfl) (fun _ => rfl) hq5 hy))
         obtain ⟨r1, U2, r2, r3, r4⟩ := h2
         exact ⟨U2, t4.trans ⟨r1, r3⟩, ⟨r2, q1, r4⟩⟩)
        obtain ⟨m6, hm6⟩ : ∃ x, Hid (end4 m5 p = x) := ⟨_, rfl⟩
        obtain ⟨ws, hws⟩ : ∃ x, Hid ((Lane.endP (prOf m5 p).ss).1 = x) := ⟨_, rfl⟩
        obtain ⟨K, hK⟩ : ∃ x, Hid (ws.length = x) := ⟨_, rfl⟩
        rw [hm6.out] at HN4 HS6 HEQ
        rw [hws.out] at HN4 HS6 HEQ
        rw [hK.out] at HN4
        have hK9 : K ≤ 100000 := by
         have h9 : (Lane.endP (prOf m5 p).ss).1.length ≤ 288 := hlw
         rw [hws.out] at h9
         have := hK.out
         omega
        clear t4 k4 hF hFU hgo hq5 hm6 hws HS5 hlw
        go_upto_block 4 with (go_at_call 156; refine hen.mono ?_; rintro e w2 he; obtain ⟨a, cc, rfl, HX⟩ := HN4.out e w2 he; clear he hen HN4)
        have HB0 : Hid (∃ U2, To w U w2 U2 ∧ Beside w2 l U2 (tellsM l.c m6 (ws.take 0)) a K cc ws 259) := HX
        clear HX x14
        go_wp2_with fail
        go_loopg [89] K (fun k v89 wr => ∃ i : Nat, v89 = .int .i64 (i : Int) ∧ i + k = K ∧ Hid (∃ U2, To w U wr U2 ∧ Beside wr l U2 (tellsM l.c m6 (ws.take i)) a K cc ws 259))
        case atStart => exact ⟨0, rfl, by omega, HB0⟩
        case round =>
         obtain ⟨i, rfl, hik, HH⟩ := hrel
         clear HB0
         by_cases hlt : i < K
         ·have hlt' : (i : Int) < (K : Int) := by omega
          have hil : i < ws.length := by rw [hK.out]; exact hlt
          obtain ⟨U2, t2, k2⟩ := HH.out
          obtain ⟨g, rfl, d0, d1⟩ := wC_cell k2.row hil
          obtain ⟨x, hx⟩ : ∃ x, Hid (ws.getD i (0, 0) = x) := ⟨_, rfl⟩
          rw [hx.out] at d0 d1
          have HSi : Hid (Shp l.c (tellsM l.c m6 (ws.take i))) := hd (Shp.tells _ HS6.out.1 (fun g hg => HS6.out.2 g (List.mem_of_mem_take hg)))
          have hxn : isNo l.c x.1 := HS6.out.2 x (by rw [← hx.out]; exact getD_mem hil)
          obtain ⟨x1, x2⟩ := x
          obtain ⟨rn, rfl⟩ : ∃ n : Nat, x1 = (n : Int) := ⟨x1.toNat, by have := hxn.1; simp only at this; omega⟩
          dsimp only at d0 d1
          have hno : rn < l.c.procs.length := by have := hxn.2; simp only at this; omega
          have hno' : (rn : Int) < (l.c.procs.length : Int) := by omega
          obtain ⟨V, hV⟩ : ∃ V, Hid (wr.alloc (.cells #[.int .i64 (rn : Int), .int .i64 x2] 259) = V) := ⟨_, rfl⟩
          obtain ⟨gb, hgb⟩ : ∃ g, Hid (wr.heap.size = g) := ⟨_, rfl⟩
          have hbv : Below wr.heap.size wr V := by rw [← hV.out]; exact below_al wr _
          have hob : V.heap[gb]? = some (.cells #[.int .i64 (rn : Int), .int .i64 x2] 259 (0, 0)) := by rw [← hV.out, ← hgb.out]; exact heap_alloc_new wr _
          have b0 : V.cell? ⟨gb, 0, none⟩ = some (.int .i64 (rn : Int)) := by rw [cell_of_row _ _ _ _ _ _ hob]; rfl
          have kV := (k2.below hbv).below (bel_drew V)
          have hgv := told_m kV.ma HSi.out hno 2
          have m11 := (k2.below hbv).ma.maC.2.2.2.2.2.2.1
          obtain ⟨gp, ag, cg⟩ := (k2.below hbv).ma.procPtr hno
          rw [ag] at m11
          have HN : Hid (∀ w3, MkOut V.drew l U2 (toldM l.c (tellsM l.c m6 (ws.take i)) rn 2) w3 → ∃ U3, To w U w3 U3 ∧ Beside w3 l U3 (tellsM l.c m6 (ws.take (i + 1))) (some ⟨g, 0, none⟩) K cc ws 259) := hd (fun w3 ho => by
           obtain ⟨U3, t3, k3⟩ := ho.get
           refine ⟨U3, (to_drew (t2.bel hbv)).trans t3, ?_⟩
           rw [take_snoc _ i (0, 0) hil, hx.out, tells_snoc]
           exact kV.step t3 k3)
          clear t2 k2 kV hbv hob HH HSi hxn HEQ
          go_upto_region 16 with fail
          rw [hV.out, hgb.out]
          go_region_law (first | (go_simp; (with_reducible refine hgv.mono ?_); rintro e w3 ⟨rfl, ho⟩))
          all_goals (
           go_wp2_with fail
           go_roundg (gk - 1)
           case rel => exact ⟨i + 1, by go_num, by omega, hd (HN.out w3 ho)⟩
           case measure => omega)
         ·have hin : i = K := by omega
          subst hin
          obtain ⟨U2, t2, k2⟩ := HH.out
          have k2 := k2.ma
          rw [List.take_of_length_le (by have := hK.out; omega), ← HEQ.out] at k2
          have HO := hd (t2.mk k2)
          clear t2 k2 HH HS6 hik hlt hK HEQ
          go_wp2_with fail
          go_end0
          exact ⟨rfl, HO.out⟩
end
end Go.Proofs.YthhcecllejddeaaGreatDoor
