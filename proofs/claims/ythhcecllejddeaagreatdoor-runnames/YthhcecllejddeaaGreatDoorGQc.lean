/- Rows of the call's own, each at a block of its own; configs as values. -/
import Derived.Test.YthhcecllejddeaaGreatDoorGQz
import Derived.ScopeJumps
import Derived.WalkMore
namespace Go.Proofs.YthhcecllejddeaaGreatDoor
open Go.RowKit
structure RowD where
 e : Nat
 size : Nat
 a : Option Addr
 n : Nat
 c : Nat
 xs : List Value
def RowD.ok (W : World) (d : RowD) : Prop := Row W d.e d.size d.a d.n d.c d.xs
def apartD (d d' : RowD) : Prop := ∀ k, blk d.a = some k → blk d'.a ≠ some k
structure Owned (B : Nat) (W : World) (ds : List RowD) : Prop where
 ok : ∀ d ∈ ds, d.ok W
 new : ∀ d ∈ ds, ∀ k, blk d.a = some k → B ≤ k
 apart : ds.Pairwise apartD
theorem Owned.nil (B : Nat) (W : World) : Owned B W [] := ⟨fun _ h => (by cases h), fun _ h => (by cases h), List.Pairwise.nil⟩
theorem Owned.mod {B : Nat} {W W' : World} {ds : List RowD} {S : Nat → Prop} (h : Owned B W ds) (hm : Mod S W W') (hs : ∀ d ∈ ds, ∀ k, blk d.a = some k → ¬ S k) : Owned B W' ds :=
 ⟨fun d hd => (h.ok d hd).mod hm (hs d hd), h.new, h.apart⟩
theorem Owned.below {B : Nat} {W W' : World} {ds : List RowD} (h : Owned B W ds) (hb : Below W.heap.size W W') : Owned B W' ds := ⟨fun d hd => (h.ok d hd).below hb, h.new, h.apart⟩
theorem Owned.lt {B : Nat} {W : World} {ds : List RowD} (h : Owned B W ds) : ∀ d ∈ ds, ∀ k, blk d.a = some k → k < W.heap.size := fun d hd k hk => (h.ok d hd).lt k hk
theorem Owned.cons {B : Nat} {W : World} {ds : List RowD} (h : Owned B W ds) {d : RowD} (hd : d.ok W) (hn : ∀ k, blk d.a = some k → B ≤ k) (ha : ∀ d' ∈ ds, apartD d d') : Owned B W (d :: ds) :=
 ⟨fun d' hd' => by
  rcases List.mem_cons.1 hd' with rfl | h'
  ·exact hd
  ·exact h.ok d' h', fun d' hd' => by
  rcases List.mem_cons.1 hd' with rfl | h'
  ·exact hn
  ·exact h.new d' h', List.Pairwise.cons ha h.apart⟩
theorem Owned.perm {B : Nat} {W : World} {ds ds' : List RowD} (h : Owned B W ds) (hp : ds.Perm ds') : Owned B W ds' :=
 ⟨fun d hd => h.ok d (hp.mem_iff.2 hd), fun d hd => h.new d (hp.mem_iff.2 hd), hp.pairwise h.apart (fun hxy k hk e => hxy k e hk)⟩
theorem Owned.mono {B B' : Nat} {W : World} {ds : List RowD} (h : Owned B W ds) (hB : B' ≤ B) : Owned B' W ds := ⟨h.ok, fun d hd k hk => Nat.le_trans hB (h.new d hd k hk), h.apart⟩
theorem Owned.head {B : Nat} {W : World} {d : RowD} {ds : List RowD} (h : Owned B W (d :: ds)) : Row W d.e d.size d.a d.n d.c d.xs := h.ok d List.mem_cons_self
theorem Owned.tail {B : Nat} {W : World} {d : RowD} {ds : List RowD} (h : Owned B W (d :: ds)) : Owned B W ds :=
 ⟨fun d' hd => h.ok d' (List.mem_cons_of_mem _ hd), fun d' hd => h.new d' (List.mem_cons_of_mem _ hd), (List.pairwise_cons.1 h.apart).2⟩
theorem Owned.turn {B : Nat} {W W' : World} {d d' : RowD} {ds : List RowD} (h : Owned B W (d :: ds)) (hB : B ≤ W.heap.size) (hm : Mod (fun k => blk d.a = some k) W W') (hd : d'.ok W') (hn : ∀ k, blk d'.a = some k → blk d.a = some k ∨ W.heap.size ≤ k) : Owned B W' (d' :: ds) := by
 have hap := (List.pairwise_cons.1 h.apart).1
 refine Owned.cons (h.tail.mod hm (fun x hx k hk hk' => hap x hx k hk' hk)) hd (fun k hk => ?_) (fun x hx k hk hk' => ?_)
 ·rcases hn k hk with h1 | h1
  ·exact h.new d List.mem_cons_self k h1
  ·omega
 ·rcases hn k hk with h1 | h1
  ·exact hap x hx k h1 hk'
  ·have := h.tail.lt x hx k hk'
   omega
def iC (l : List Int) : List Value := l.map (.int .i64 ·)
theorem iC_len (l : List Int) : (iC l).length = l.length * 1 := by simp [iC]
theorem iC_at (l : List Int) (i : Nat) (h : i < l.length) : (iC l)[i]? = some (.int .i64 (l.getD i 0)) := by simp [iC, List.getD_eq_getElem?_getD, List.getElem?_eq_getElem h]
theorem iC_one (l : List Int) : ∀ u ∈ iC l, u.oneCell' = true := by
 intro u hu
 obtain ⟨x, _, rfl⟩ := List.mem_map.mp hu
 rfl
theorem iC_app (l m : List Int) : iC l ++ iC m = iC (l ++ m) := by simp [iC]
theorem natC_iC (l : List Nat) : natC l = iC (l.map fun x : Nat => (x : Int)) := by simp [natC, iC]
structure PrM where
 p : Pr
 a : Option Addr
 c : Nat
instance : Inhabited PrM := ⟨⟨default, none, 0⟩⟩
def psOf (ms : List PrM) : List Pr := ms.map PrM.p
theorem psOf_len (ms : List PrM) : (psOf ms).length = ms.length := by simp [psOf]
theorem psOf_snoc (ms : List PrM) (m : PrM) : psOf (ms ++ [m]) = psOf ms ++ [m.p] := by simp [psOf]
def prC (m : PrM) : List Value := [.int .i64 m.p.part, .slice m.a m.p.code.length m.c]
def psC (ms : List PrM) : List Value := ms.flatMap prC
theorem psC_len (ms : List PrM) : (psC ms).length = ms.length * 2 := by
 induction ms with
 | nil => rfl
 | cons x r ih => simp only [psC, List.flatMap_cons, List.length_append, List.length_cons] at *; rw [ih, show (prC x).length = 2 from rfl]; omega
theorem prC_one (m : PrM) : ∀ u ∈ prC m, u.oneCell' = true := by
 intro u hu
 simp only [prC, List.mem_cons, List.not_mem_nil, or_false] at hu
 rcases hu with rfl | rfl <;> rfl
theorem psC_at : ∀ (ms : List PrM) (i : Nat), i < ms.length → (psC ms)[i * 2]? = some (.int .i64 (ms.getD i default).p.part) ∧ (psC ms)[i * 2 + 1]? = some (.slice (ms.getD i default).a (ms.getD i default).p.code.length (ms.getD i default).c)
 | [], i, h => absurd h (Nat.not_lt_zero i)
 | t :: ts, 0, _ => ⟨rfl, rfl⟩
 | t :: ts, i + 1, h => by
  have ih := psC_at ts i (by simpa using h)
  simp only [psC, List.flatMap_cons, List.getD_cons_succ] at *
  rw [List.getElem?_append_right (by rw [show (prC t).length = 2 from rfl]; omega), List.getElem?_append_right (by rw [show (prC t).length = 2 from rfl]; omega), show (prC t).length = 2 from rfl, show (i + 1) * 2 - 2 = i * 2 by omega, show (i + 1) * 2 + 1 - 2 = i * 2 + 1 by omega]
  exact ih
def prD (m : PrM) : RowD := ⟨54, 5, m.a, m.p.code.length, m.c, pCells m.p.code⟩
structure Loc where
 la : Option Addr
 lc : Nat
 ta : Option Addr
 tc : Nat
 pa : Option Addr
 pc : Nat
 ms : List PrM
def cfA (c : Cfg) (g : Loc) : Array Value := #[.slice g.la c.labels.length g.lc, .slice g.ta c.table.length g.tc, .int .i64 c.fuel, .int .i64 c.lane, .int .i64 c.locks, .int .i64 c.log, .slice g.pa c.procs.length g.pc]
def cfV (c : Cfg) (g : Loc) : Value := .agg (cfA c g)
def noL : Loc := ⟨none, 0, none, 0, none, 0, []⟩
def cfD (c : Cfg) (g : Loc) : List RowD := ⟨29, 1, g.la, c.labels.length, g.lc, labC c.labels⟩ :: ⟨3, 1, g.ta, c.table.length, g.tc, iC c.table⟩ :: ⟨57, 2, g.pa, c.procs.length, g.pc, psC g.ms⟩ :: g.ms.map prD
structure CfO (B : Nat) (W : World) (c : Cfg) (g : Loc) : Prop where
 own : Owned B W (cfD c g)
 ps : psOf g.ms = c.procs
structure CfR (W : World) (c : Cfg) (g : Loc) : Prop where
 lab : Rd W g.la (labC c.labels)
 tab : Rd W g.ta (iC c.table)
 prs : Rd W g.pa (psC g.ms)
 cod : ∀ m ∈ g.ms, Rd W m.a (pCells m.p.code)
 ps : psOf g.ms = c.procs
theorem CfO.rd {B : Nat} {W : World} {c : Cfg} {g : Loc} (h : CfO B W c g) : CfR W c g where
 lab := (h.own.ok _ List.mem_cons_self).rd
 tab := (h.own.ok _ (List.mem_cons_of_mem _ List.mem_cons_self)).rd
 prs := (h.own.ok _ (List.mem_cons_of_mem _ (List.mem_cons_of_mem _ List.mem_cons_self))).rd
 cod := fun m hm => (h.own.ok (prD m) (List.mem_cons_of_mem _ (List.mem_cons_of_mem _ (List.mem_cons_of_mem _ (List.mem_map_of_mem hm))))).rd
 ps := h.ps
theorem row_none {W : World} (e s : Nat) : (⟨e, s, none, 0, 0, []⟩ : RowD).ok W := Row.nil
theorem CfO.none (B : Nat) (W : World) : CfO B W noC noL :=
 ⟨(((Owned.nil B W).cons (row_none 57 2) (fun k hk => by cases hk) (fun d hd => by cases hd)).cons (row_none 3 1) (fun k hk => by cases hk) (fun d _ k hk => by cases hk)).cons (row_none 29 1) (fun k hk => by cases hk) (fun d _ k hk => by cases hk), rfl⟩
theorem CfR.below {W W' : World} {c : Cfg} {g : Loc} (h : CfR W c g) (hb : Below W.heap.size W W') : CfR W' c g := ⟨h.lab.below hb, h.tab.below hb, h.prs.below hb, fun m hm => (h.cod m hm).below hb, h.ps⟩
theorem CfO.below {B : Nat} {W W' : World} {c : Cfg} {g : Loc} (h : CfO B W c g) (hb : Below W.heap.size W W') : CfO B W' c g := ⟨h.own.below hb, h.ps⟩
theorem CfR.len {W : World} {c : Cfg} {g : Loc} (h : CfR W c g) : g.ms.length = c.procs.length := by rw [← h.ps, psOf_len]
theorem CfR.at {W : World} {c : Cfg} {g : Loc} (h : CfR W c g) (i : Nat) : (g.ms.getD i default).p = c.procs.getD i default := by
 rw [← h.ps]
 simp only [psOf, List.getD_eq_getElem?_getD, List.getElem?_map]
 cases g.ms[i]? <;> rfl
end Go.Proofs.YthhcecllejddeaaGreatDoor

namespace Go.Proofs.YthhcecllejddeaaGreatDoor
open Go.RowKit
theorem bind_assoc {α β γ : Type} (x : Par α) (f : α → Par β) (g : β → Par γ) : bind_ (bind_ x f) g = bind_ x (fun a => bind_ (f a) g) := by
 funext bs p
 unfold bind_
 cases x bs p <;> rfl
theorem Stage.sub {α β : Type} {whole : Res α} {s s' : St} {bs : List Nat} {X : Par β} {k : β → Par α} {l : β} (h : Stage whole s (bind_ X k bs s.nx)) (h0 : s.e = 0) (h1 : Stage (X bs s.nx) s' (pure_ l bs s'.nx)) : Stage whole s' (k l bs s'.nx) := by
 obtain ⟨hw, ha⟩ := h.good h0
 unfold bind_ at hw
 rcases h1 with ⟨e1, e2, e3⟩ | ⟨e1, e2⟩
 ·rw [e3] at hw
  exact .inl ⟨e1, e2, hw⟩
 ·rw [e2] at hw
  exact .inr ⟨e1, hw⟩
def fin : Cfg → Par Cfg := fun c bs p => if p < bs.length then .er 6 p else .ok c p
def wholeC (bs : List Nat) : Res Cfg := bind_ cfgP fin bs 0
theorem whole_eq (bs : List Nat) : wholeC bs = bind_ hdP (fun _ => bind_ P2 fin) bs 0 := by
 unfold wholeC
 rw [cfgP_eq, bind_assoc]
section
variable {w : World} {r : Nat} {a : Option Addr} {cap : Nat} {bs : List Nat} {s : St}
set_option maxRecDepth 100000 in
set_option maxHeartbeats 1000000 in
theorem rest_any (h : RdAt w r a cap bs s) :
  Calls Tryz.prog 67 #[.pointer (some ⟨r, 0, none⟩)] w fun e w' => e = .returned (.tuple #[]) ∧ ROut w r a cap bs (failS s (if s.nx < bs.length then 6 else 0) s.nx) w' := by
 have k0 := h.cells.1
 have k2 := h.cells.2.2.1
 have H := hd h
 have hf : Hid (∀ n, Calls Tryz.prog 98 #[.pointer (some ⟨r, 0, none⟩), .int .i64 6, .int .i64 s.nx] (w.drewN n) fun e w' => e = .returned (.tuple #[]) ∧ ROut w r a cap bs (failS s 6 s.nx) w') := hd fun n =>
  (fail_any (h.below (below_draw w n)) 6 s.nx).mono fun e w' ⟨he, ho⟩ => ⟨he, ho.1, (Mod.of_below _ (below_draw w n)).trans ho.2 (fun _ h => .inl h)⟩
 clear h
 by_cases h1 : s.nx < bs.length
 ·rw [if_pos h1]
  have h1' : (s.nx : Int) < (bs.length : Int) := by omega
  go_enter Tryz.func67, Tryz.ntmps67
  go_upto_region 0 with fail
  go_quiet (fail)
  have k2' : (w.drewN nq).cell? ⟨r, 2, none⟩ = some (.int .i64 s.nx) := k2
  go_wp2_with (go_at_call 98; refine (hf.out nq).mono ?_; rintro e w1 ⟨rfl, ho⟩)
  refine bodyPost_end (results_none rfl _ _ _) rfl ?_
  exact ⟨rfl, ho⟩
 ·rw [if_neg h1]
  have h1' : decide ((s.nx : Int) < (bs.length : Int)) = false := by simp; omega
  have h1n : (bs.length : Int) ≤ (s.nx : Int) := by omega
  go_enter Tryz.func67, Tryz.ntmps67
  go_upto_region 0 with fail
  go_quiet (fail)
  go_wp2_with fail
  refine bodyPost_end (results_none rfl _ _ _) rfl ?_
  rw [failS_ok]
  exact ⟨rfl, (ROut.refl H.out).after (below_draw w nq)⟩
end
structure CfB (w : World) (r : Nat) (a : Option Addr) (cap : Nat) (bs : List Nat) (s : St) (W : World) (G0 G1 : Nat) (xs : Array Value) : Prop where
 out : ROut w r a cap bs s W
 b0 : W.heap[G0]? = some (.cells #[.slice none 0 0, .slice none 0 0, .int .i64 0, .int .i64 0, .int .i64 0, .int .i64 0, .slice none 0 0] 27 (0, 0))
 b1 : W.heap[G1]? = some (.cells xs 27 (0, 0))
 n0 : w.heap.size ≤ G0
 n1 : G0 < G1
section
variable {w W W' : World} {r : Nat} {a : Option Addr} {cap : Nat} {bs : List Nat} {s s' s0 : St} {G0 G1 : Nat} {xs : Array Value}
theorem CfB.step (h : CfB w r a cap bs s W G0 G1 xs) (h0 : RdAt w r a cap bs s0) (o : ROut W r a cap bs s' W') : CfB w r a cap bs s' W' G0 G1 xs := by
 have hr := h0.lt
 have := h.n0
 have := h.n1
 exact ⟨h.out.trans o, by rw [o.2.block G0 (Array.getElem?_eq_some_iff.1 h.b0).1 (by omega)]; exact h.b0, by rw [o.2.block G1 (Array.getElem?_eq_some_iff.1 h.b1).1 (by omega)]; exact h.b1, h.n0, h.n1⟩
theorem CfB.below (h : CfB w r a cap bs s W G0 G1 xs) (hb : Below W.heap.size W W') : CfB w r a cap bs s W' G0 G1 xs :=
 ⟨h.out.after hb, by rw [hb.block G0 (Array.getElem?_eq_some_iff.1 h.b0).1]; exact h.b0, by rw [hb.block G1 (Array.getElem?_eq_some_iff.1 h.b1).1]; exact h.b1, h.n0, h.n1⟩
theorem CfB.put (h : CfB w r a cap bs s W G0 G1 xs) (h0 : RdAt w r a cap bs s0) (i : Nat) (v : Value) : CfB w r a cap bs s (W.setCell ⟨G1, i, none⟩ v) G0 G1 (xs.setIfInBounds i v) := by
 have := h.n0
 have := h.n1
 exact ⟨h.out.put h0 (by omega) i v, by rw [Below.heap_setCell _ _ _ _ (by simp only; omega)]; exact h.b0, heap_setCell_same W G1 i _ _ v h.b1, h.n0, h.n1⟩
theorem CfB.cell (h : CfB w r a cap bs s W G0 G1 xs) (i : Nat) : W.cell? ⟨G1, i, none⟩ = xs[i]? := cell_of_row _ _ _ _ _ _ h.b1
theorem CfB.free (h : CfB w r a cap bs s W G0 G1 xs) (i : Nat) : W.frozen? ⟨G1, i, none⟩ = false := by simp [World.frozen?, h.b1]
theorem CfB.free0 (h : CfB w r a cap bs s W G0 G1 xs) (i : Nat) : W.frozen? ⟨G0, i, none⟩ = false := by simp [World.frozen?, h.b0]
theorem CfB.cell0 (h : CfB w r a cap bs s W G0 G1 xs) (i : Nat) : W.cell? ⟨G0, i, none⟩ = (#[.slice none 0 0, .slice none 0 0, .int .i64 0, .int .i64 0, .int .i64 0, .int .i64 0, .slice none 0 0] : Array Value)[i]? := cell_of_row _ _ _ _ _ _ h.b0
end
section
variable {w W W' : World} {r : Nat} {a : Option Addr} {cap : Nat} {bs : List Nat} {s s' s0 : St} {B : Nat} {ds : List RowD}
theorem Owned.step (h : Owned B W ds) (o : ROut W r a cap bs s' W') (hr : r < B) : Owned B W' ds := h.mod o.2 (fun d hd k hk e => by have := h.new d hd k hk; omega)
theorem Owned.put (h : Owned B W ds) {G : Nat} (hG : G < B) (i : Nat) (v : Value) : Owned B (W.setCell ⟨G, i, none⟩ v) ds :=
 h.mod (S := fun k => k = G) ((Mod.refl (fun k => k = G) W).setCell (.inl rfl) v) (fun d hd k hk e => by have := h.new d hd k hk; omega)
theorem Owned.add {e size n c1 : Nat} {a1 : Option Addr} {xs : List Value} (h : Owned B W ds) (hr : r < B) (hB : B ≤ W.heap.size) (m : MkI W r a cap bs s' W' e size a1 n c1 xs) : Owned B W' (⟨e, size, a1, n, c1, xs⟩ :: ds) := by
 refine (h.step m.out hr).cons m.row (fun k hk => Nat.le_trans hB (m.new k hk)) (fun d hd k hk e => ?_)
 have h1 := m.new k hk
 have h2 := h.lt d hd k e
 omega
end
theorem chk4 {whole : Res Cfg} {s : St} {bs : List Nat} {L T : List Nat} (h : Stage whole s (bind_ (P4 L T) fin bs s.nx)) :
  Stage whole (stN bs s 4) (bind_ (P8 L T (vaN bs s 0) (vaN bs s 1) (vaN bs s 2) (vaN bs s 3)) fin bs (stN bs s 4).nx) := by
 have h1 : Stage whole s (bind_ (numP 2 (limF 0)) (fun f => bind_ (P5 L T f) fin) bs s.nx) := by rw [← bind_assoc]; exact h
 have h2 := Stage.chk h1
 have h3 : Stage whole (stN bs s 1) (bind_ (numP 1 (limF 1)) (fun g => bind_ (P6 L T (vaN bs s 0) g) fin) bs (stN bs s 1).nx) := by rw [← bind_assoc]; exact h2
 have h4 := Stage.chk h3
 have h5 : Stage whole (stN bs s 2) (bind_ (numP 1 (limF 2)) (fun k => bind_ (P7 L T (vaN bs s 0) (vaN bs s 1) k) fin) bs (stN bs s 2).nx) := by rw [← bind_assoc]; exact h4
 have h6 := Stage.chk h5
 have h7 : Stage whole (stN bs s 3) (bind_ (numP 2 (limF 3)) (fun i => bind_ (P8 L T (vaN bs s 0) (vaN bs s 1) (vaN bs s 2) i) fin) bs (stN bs s 3).nx) := by rw [← bind_assoc]; exact h6
 exact Stage.chk h7
def endP (L T : List Nat) (f g h i : Nat) (ps : List Pr) : Par Cfg := fin (mkC L T f g h i ps)
theorem p8_eq (L T : List Nat) (f g h i : Nat) : bind_ (P8 L T f g h i) fin = bind_ (numP 1 fun n => cntE 32 n) (fun n => bind_ (repP (fun _ => prP L.length h) n []) (endP L T f g h i)) := by
 unfold P8 prsP
 rw [bind_assoc, bind_assoc]
 rfl
theorem rep_eq (L T : List Nat) (f g h i m : Nat) (acc : List Pr) : bind_ (repP (fun _ => prP L.length h) (m + 1) acc) (endP L T f g h i) = bind_ (numP 1 fun n => rngE 0 ((L.length : Int) - 1) n) (fun part => bind_ (codP h) (fun l => bind_ (repP (fun _ => prP L.length h) m (acc ++ [⟨part, l⟩])) (endP L T f g h i))) := by
 rw [repP, bind_assoc]
 unfold prP ptP
 rw [bind_assoc]
 congr 1
 funext part
 rw [bind_assoc]
 rfl
structure LpIq (w : World) (r : Nat) (a : Option Addr) (cap : Nat) (bs : List Nat) (G0 : Nat) (L T : List Nat) (f g h i : Nat) (la : Option Addr) (lc : Nat) (ta : Option Addr) (tc n : Nat) (wr : World) (ms : List PrM) (pa : Option Addr) (pc : Nat) (s : St) : Prop where
 cb : CfB w r a cap bs s wr G0 (G0 + 1) (cfA (mkC L T f g h i (psOf ms)) ⟨la, lc, ta, tc, pa, pc, ms⟩)
 own : Owned (G0 + 2) wr (cfD (mkC L T f g h i (psOf ms)) ⟨la, lc, ta, tc, pa, pc, ms⟩)
 st : Stage (wholeC bs) s (bind_ (repP (fun _ => prP L.length h) (n - ms.length) (psOf ms)) (endP L T f g h i) bs s.nx)
 ok : s.e = 0
 sz : G0 + 2 ≤ wr.heap.size
theorem seven_cells {W : World} {G : Nat} {x0 x1 x2 x3 x4 x5 x6 v0 v1 v2 v3 v4 v5 v6 : Value} {T : TypeId} (h : W.heap[G]? = some (.cells #[x0, x1, x2, x3, x4, x5, x6] T (0, 0))) :
  (((((((W.setCell ⟨G, 0, none⟩ v0).setCell ⟨G, 1, none⟩ v1).setCell ⟨G, 2, none⟩ v2).setCell ⟨G, 3, none⟩ v3).setCell ⟨G, 4, none⟩ v4).setCell ⟨G, 5, none⟩ v5).setCell ⟨G, 6, none⟩ v6).heap[G]? = some (.cells #[v0, v1, v2, v3, v4, v5, v6] T (0, 0)) := by
 have h0 := heap_setCell_same W G 0 _ _ v0 h
 simp only [List.setIfInBounds_toArray, List.set_cons_zero] at h0
 have h1 := heap_setCell_same _ G 1 _ _ v1 h0
 simp only [List.setIfInBounds_toArray, List.set_cons_zero, List.set_cons_succ] at h1
 have h2 := heap_setCell_same _ G 2 _ _ v2 h1
 simp only [List.setIfInBounds_toArray, List.set_cons_zero, List.set_cons_succ] at h2
 have h3 := heap_setCell_same _ G 3 _ _ v3 h2
 simp only [List.setIfInBounds_toArray, List.set_cons_zero, List.set_cons_succ] at h3
 have h4 := heap_setCell_same _ G 4 _ _ v4 h3
 simp only [List.setIfInBounds_toArray, List.set_cons_zero, List.set_cons_succ] at h4
 have h5 := heap_setCell_same _ G 5 _ _ v5 h4
 simp only [List.setIfInBounds_toArray, List.set_cons_zero, List.set_cons_succ] at h5
 have h6 := heap_setCell_same _ G 6 _ _ v6 h5
 simp only [List.setIfInBounds_toArray, List.set_cons_zero, List.set_cons_succ] at h6
 exact h6
theorem cfD_more {B : Nat} {W W' : World} {L T : List Nat} {f g h i : Nat} {la : Option Addr} {lc : Nat} {ta : Option Addr} {tc : Nat} {ms : List PrM} {pa pa' : Option Addr} {pc pc' : Nat} {m : PrM}
  (ho : Owned B W (prD m :: cfD (mkC L T f g h i (psOf ms)) ⟨la, lc, ta, tc, pa, pc, ms⟩)) (hB : B ≤ W.heap.size) (hm : Mod (fun k => blk pa = some k) W W')
  (hR : Row W' 57 2 pa' (ms.length + 1) pc' (psC ms ++ prC m)) (hn : ∀ k, blk pa' = some k → blk pa = some k ∨ W.heap.size ≤ k) :
  Owned B W' (cfD (mkC L T f g h i (psOf (ms ++ [m]))) ⟨la, lc, ta, tc, pa', pc', ms ++ [m]⟩) := by
 have h1 := ho.perm (List.perm_append_comm (l₁ := [prD m]) (l₂ := cfD (mkC L T f g h i (psOf ms)) ⟨la, lc, ta, tc, pa, pc, ms⟩))
 unfold cfD at h1
 have h2 := h1.perm (List.perm_middle (l₁ := [_, _]))
 have h3 := h2.turn (d' := ⟨57, 2, pa', ms.length + 1, pc', psC ms ++ prC m⟩) hB hm hR hn
 have h4 := h3.perm (List.perm_middle (l₁ := [_, _])).symm
 unfold cfD
 simpa [mkC, psC, psOf] using h4
theorem LpIq.start {w : World} {r : Nat} {a : Option Addr} {cap : Nat} {bs : List Nat} {G0 : Nat} {L T : List Nat} {f g h i : Nat} {la : Option Addr} {lc : Nat} {ta : Option Addr} {tc n : Nat} {wr : World} {s : St}
  (hc : CfB w r a cap bs s wr G0 (G0 + 1) #[.slice la L.length lc, .slice ta T.length tc, .int .i64 f, .int .i64 g, .int .i64 h, .int .i64 i, .slice none 0 0])
  (ho : Owned (G0 + 2) wr [⟨29, 1, la, L.length, lc, labC L⟩, ⟨3, 1, ta, T.length, tc, natC T⟩])
  (hs : Stage (wholeC bs) s (bind_ (repP (fun _ => prP L.length h) n []) (endP L T f g h i) bs s.nx)) (h0 : s.e = 0) (hz : G0 + 2 ≤ wr.heap.size) : LpIq w r a cap bs G0 L T f g h i la lc ta tc n wr [] none 0 s where
 cb := by simpa [cfA, mkC, psOf] using hc
 own := by
  have h1 := ho.cons (d := ⟨57, 2, none, 0, 0, []⟩) Row.nil (fun k hk => by cases hk) (fun d _ k hk => by cases hk)
  have h2 := h1.perm (List.perm_middle (l₁ := [_, _]) (l₂ := [])).symm
  simpa [cfD, mkC, psOf, psC, natC_iC] using h2
 st := hs
 ok := h0
 sz := hz
theorem LpIq.more {w : World} {r : Nat} {a : Option Addr} {cap : Nat} {bs : List Nat} {G0 : Nat} {L T : List Nat} {f g h i : Nat} {la : Option Addr} {lc : Nat} {ta : Option Addr} {tc n : Nat} {W W' : World} {s : St} {ms : List PrM} {pa pa' : Option Addr} {pc pc' : Nat} {m : PrM} {s0 : St}
  (h0 : RdAt w r a cap bs s0) (hr : r < G0)
  (hc : CfB w r a cap bs s W G0 (G0 + 1) (cfA (mkC L T f g h i (psOf ms)) ⟨la, lc, ta, tc, pa, pc, ms⟩))
  (ho : Owned (G0 + 2) W (prD m :: cfD (mkC L T f g h i (psOf ms)) ⟨la, lc, ta, tc, pa, pc, ms⟩)) (hz : G0 + 2 ≤ W.heap.size) (hm : Mod (fun k => blk pa = some k) W W')
  (hR : Row W' 57 2 pa' (ms.length + 1) pc' (psC ms ++ prC m)) (hn : ∀ k, blk pa' = some k → blk pa = some k ∨ W.heap.size ≤ k)
  (hs : Stage (wholeC bs) s (bind_ (repP (fun _ => prP L.length h) (n - (ms.length + 1)) (psOf ms ++ [m.p])) (endP L T f g h i) bs s.nx)) (h1 : s.e = 0) :
  (W'.cell? ⟨G0 + 1, 6, none⟩ = some (.slice pa ms.length pc) ∧ W'.frozen? ⟨G0 + 1, 6, none⟩ = false) ∧ LpIq w r a cap bs G0 L T f g h i la lc ta tc n (W'.setCell ⟨G0 + 1, 6, none⟩ (.slice pa' (ms.length + 1) pc')) (ms ++ [m]) pa' pc' s := by
 have hpa : ∀ k, blk pa = some k → G0 + 2 ≤ k := fun k hk => ho.new ⟨57, 2, pa, (psOf ms).length, pc, psC ms⟩ (by simp [cfD, mkC]) k hk
 have hm2 : Mod (fun k => k = r ∨ G0 + 2 ≤ k) W W' := hm.mono (fun k _ hk => .inr (hpa k hk))
 have c1 : CfB w r a cap bs s W' G0 (G0 + 1) (cfA (mkC L T f g h i (psOf ms)) ⟨la, lc, ta, tc, pa, pc, ms⟩) := by
  have o := hc.out
  have := hc.n0
  refine ⟨⟨⟨?_, Rd.apart h0.rd o.1.rd hm (fun k hk => by have := hpa k hk; omega) rfl, o.1.ne, o.1.byte, o.1.le, o.1.room, o.1.nx, o.1.fr⟩, o.2.trans hm (fun k hk => .inr (by have := hpa k hk; omega))⟩, ?_, ?_, hc.n0, hc.n1⟩
  ·rw [hm.block r o.1.lt (fun e => by have := hpa r e; omega)]
   exact o.1.obj
  ·rw [hm.block G0 (by omega) (fun e => by have := hpa G0 e; omega)]
   exact hc.b0
  ·rw [hm.block (G0 + 1) (by omega) (fun e => by have := hpa (G0 + 1) e; omega)]
   exact hc.b1
 have hl : (mkC L T f g h i (psOf ms)).procs.length = ms.length := psOf_len ms
 refine ⟨⟨?_, c1.free 6⟩, ?_, ?_, ?_, h1, ?_⟩
 ·rw [c1.cell 6]
  simp [cfA, hl]
 ·have := c1.put h0 6 (.slice pa' (ms.length + 1) pc')
  simpa [cfA, mkC, psOf] using this
 ·exact (cfD_more ho hz hm hR hn).put (by omega) 6 _
 ·rw [psOf_snoc, show n - (ms ++ [m]).length = n - (ms.length + 1) by simp]
  exact hs
 ·have h3 := hm.size
  have h4 : (W'.setCell ⟨G0 + 1, 6, none⟩ (.slice pa' (ms.length + 1) pc')).heap.size = W'.heap.size := by simp [World.setCell]
  omega
theorem CfB.other {w W : World} {r : Nat} {a : Option Addr} {cap : Nat} {bs : List Nat} {s s0 : St} {G0 G1 : Nat} {xs : Array Value} (h : CfB w r a cap bs s W G0 G1 xs) (h0 : RdAt w r a cap bs s0) {G : Nat} (hG : G1 < G) (i : Nat) (v : Value) : CfB w r a cap bs s (W.setCell ⟨G, i, none⟩ v) G0 G1 xs := by
 have := h.n0
 have := h.n1
 exact ⟨h.out.put h0 (by omega) i v, by rw [Below.heap_setCell _ _ _ _ (by simp only; omega)]; exact h.b0, by rw [Below.heap_setCell _ _ _ _ (by simp only; omega)]; exact h.b1, h.n0, h.n1⟩
theorem Owned.other {B : Nat} {W : World} {ds : List RowD} (h : Owned B W ds) {G : Nat} (hG : ∀ d ∈ ds, ∀ k, blk d.a = some k → k ≠ G) (i : Nat) (v : Value) : Owned B (W.setCell ⟨G, i, none⟩ v) ds :=
 h.mod (S := fun k => k = G) ((Mod.refl (fun k => k = G) W).setCell (.inl rfl) v) hG
def put7 (W : World) (G : Nat) (v0 v1 v2 v3 v4 v5 v6 : Value) : World := ((((((W.setCell ⟨G, 0, none⟩ v0).setCell ⟨G, 1, none⟩ v1).setCell ⟨G, 2, none⟩ v2).setCell ⟨G, 3, none⟩ v3).setCell ⟨G, 4, none⟩ v4).setCell ⟨G, 5, none⟩ v5).setCell ⟨G, 6, none⟩ v6
theorem CfB.ends {w W : World} {r : Nat} {a : Option Addr} {cap : Nat} {bs : List Nat} {s s0 : St} {G0 G1 : Nat} {xs : Array Value} (h : CfB w r a cap bs s W G0 G1 xs) (h0 : RdAt w r a cap bs s0) (v0 v1 v2 v3 v4 v5 v6 : Value) :
  ROut w r a cap bs s (put7 W G0 v0 v1 v2 v3 v4 v5 v6) ∧ (put7 W G0 v0 v1 v2 v3 v4 v5 v6).heap[G0]? = some (.cells #[v0, v1, v2, v3, v4, v5, v6] 27 (0, 0)) ∧ ∀ B ds, G0 < B → Owned B W ds → Owned B (put7 W G0 v0 v1 v2 v3 v4 v5 v6) ds :=
 ⟨((((((h.out.put h0 h.n0 _ _).put h0 h.n0 _ _).put h0 h.n0 _ _).put h0 h.n0 _ _).put h0 h.n0 _ _).put h0 h.n0 _ _).put h0 h.n0 _ _, seven_cells h.b0,
  fun _ _ hB ho => ((((((ho.put hB _ _).put hB _ _).put hB _ _).put hB _ _).put hB _ _).put hB _ _).put hB _ _⟩
end Go.Proofs.YthhcecllejddeaaGreatDoor
