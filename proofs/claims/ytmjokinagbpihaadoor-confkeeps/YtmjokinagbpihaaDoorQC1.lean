/- Rows of the call's own, each at a block of its own; configs as values. -/
import Derived.Test.YtmjokinagbpihaaDoorQWA
namespace Go.Proofs.YtmjokinagbpihaaDoor
open Go.RowKit

structure RowD where
  e : Nat
  size : Nat
  a : Option Addr
  n : Nat
  c : Nat
  xs : List Value
def RowD.ok (W : World) (d : RowD) : Prop := Row W d.e d.size d.a d.n d.c d.xs
def apartD (d d' : RowD) : Prop := ∀ k, blk d.a = some k → blk d'.a ≠ some k
/-- Rows at blocks from B on, no two of them the same. -/
structure Owned (B : Nat) (W : World) (ds : List RowD) : Prop where
  ok : ∀ d ∈ ds, d.ok W
  new : ∀ d ∈ ds, ∀ k, blk d.a = some k → B ≤ k
  apart : ds.Pairwise apartD

theorem Owned.nil (B : Nat) (W : World) : Owned B W [] := ⟨fun _ h => (by cases h), fun _ h => (by cases h), List.Pairwise.nil⟩
theorem Owned.mod {B : Nat} {W W' : World} {ds : List RowD} {S : Nat → Prop} (h : Owned B W ds) (hm : Mod S W W') (hs : ∀ d ∈ ds, ∀ k, blk d.a = some k → ¬ S k) : Owned B W' ds :=
  ⟨fun d hd => (h.ok d hd).mod hm (hs d hd), h.new, h.apart⟩
theorem Owned.below {B : Nat} {W W' : World} {ds : List RowD} (h : Owned B W ds) (hb : Below W.heap.size W W') : Owned B W' ds := ⟨fun d hd => (h.ok d hd).below hb, h.new, h.apart⟩
theorem Owned.lt {B : Nat} {W : World} {ds : List RowD} (h : Owned B W ds) : ∀ d ∈ ds, ∀ k, blk d.a = some k → k < W.heap.size := fun d hd k hk => (h.ok d hd).lt k hk
theorem Owned.cons {B : Nat} {W : World} {ds : List RowD} (h : Owned B W ds) {d : RowD} (hd : d.ok W) (hn : ∀ k, blk d.a = some k → B ≤ k) (ha : ∀ d' ∈ ds, apartD d d') : Owned B W (d :: ds) :=
  ⟨fun d' hd' => by
    rcases List.mem_cons.1 hd' with rfl | h'
    · exact hd
    · exact h.ok d' h', fun d' hd' => by
    rcases List.mem_cons.1 hd' with rfl | h'
    · exact hn
    · exact h.new d' h', List.Pairwise.cons ha h.apart⟩
theorem Owned.perm {B : Nat} {W : World} {ds ds' : List RowD} (h : Owned B W ds) (hp : ds.Perm ds') : Owned B W ds' :=
  ⟨fun d hd => h.ok d (hp.mem_iff.2 hd), fun d hd => h.new d (hp.mem_iff.2 hd), hp.pairwise h.apart (fun hxy k hk e => hxy k e hk)⟩
theorem Owned.mono {B B' : Nat} {W : World} {ds : List RowD} (h : Owned B W ds) (hB : B' ≤ B) : Owned B' W ds := ⟨h.ok, fun d hd k hk => Nat.le_trans hB (h.new d hd k hk), h.apart⟩
theorem Owned.head {B : Nat} {W : World} {d : RowD} {ds : List RowD} (h : Owned B W (d :: ds)) : Row W d.e d.size d.a d.n d.c d.xs := h.ok d List.mem_cons_self
theorem Owned.tail {B : Nat} {W : World} {d : RowD} {ds : List RowD} (h : Owned B W (d :: ds)) : Owned B W ds :=
  ⟨fun d' hd => h.ok d' (List.mem_cons_of_mem _ hd), fun d' hd => h.new d' (List.mem_cons_of_mem _ hd), (List.pairwise_cons.1 h.apart).2⟩
/-- The first row has been changed; the others are as they were. -/
theorem Owned.turn {B : Nat} {W W' : World} {d d' : RowD} {ds : List RowD} (h : Owned B W (d :: ds)) (hB : B ≤ W.heap.size) (hm : Mod (fun k => blk d.a = some k) W W') (hd : d'.ok W') (hn : ∀ k, blk d'.a = some k → blk d.a = some k ∨ W.heap.size ≤ k) : Owned B W' (d' :: ds) := by
  have hap := (List.pairwise_cons.1 h.apart).1
  refine Owned.cons (h.tail.mod hm (fun x hx k hk hk' => hap x hx k hk' hk)) hd (fun k hk => ?_) (fun x hx k hk hk' => ?_)
  · rcases hn k hk with h1 | h1
    · exact h.new d List.mem_cons_self k h1
    · omega
  · rcases hn k hk with h1 | h1
    · exact hap x hx k h1 hk'
    · have := h.tail.lt x hx k hk'
      omega

/-- Whole numbers as cells. -/
def iC (l : List Int) : List Value := l.map (.int .i64 ·)
theorem iC_len (l : List Int) : (iC l).length = l.length * 1 := by simp [iC]
theorem iC_at (l : List Int) (i : Nat) (h : i < l.length) : (iC l)[i]? = some (.int .i64 (l.getD i 0)) := by simp [iC, List.getD_eq_getElem?_getD, List.getElem?_eq_getElem h]
theorem iC_one (l : List Int) : ∀ u ∈ iC l, u.oneCell' = true := by
  intro u hu
  obtain ⟨x, _, rfl⟩ := List.mem_map.mp hu
  rfl
theorem iC_app (l m : List Int) : iC l ++ iC m = iC (l ++ m) := by simp [iC]
theorem natC_iC (l : List Nat) : natC l = iC (l.map fun x : Nat => (x : Int)) := by simp [natC, iC]

/-- A process, and where its program lies. -/
structure PrM where
  p : Pr
  a : Option Addr
  c : Nat
instance : Inhabited PrM := ⟨⟨default, none, 0⟩⟩
/-- The processes alone. -/
def psOf (ms : List PrM) : List Pr := ms.map PrM.p
theorem psOf_len (ms : List PrM) : (psOf ms).length = ms.length := by simp [psOf]
theorem psOf_snoc (ms : List PrM) (m : PrM) : psOf (ms ++ [m]) = psOf ms ++ [m.p] := by simp [psOf]
def prC (m : PrM) : List Value := [.int .i64 m.p.part, .slice m.a m.p.code.length m.c]
def psC (ms : List PrM) : List Value := ms.flatMap prC
theorem psC_len (ms : List PrM) : (psC ms).length = ms.length * 2 := by
  induction ms with
  | nil => rfl
  | cons x r ih => simp only [psC, List.flatMap_cons, List.length_append, List.length_cons] at *; rw [ih, show (prC x).length = 2 from rfl]; omega
theorem psC_snoc (ms : List PrM) (m : PrM) : psC (ms ++ [m]) = psC ms ++ prC m := by simp [psC]
theorem prC_one (m : PrM) : ∀ u ∈ prC m, u.oneCell' = true := by
  intro u hu
  simp only [prC, List.mem_cons, List.not_mem_nil, or_false] at hu
  rcases hu with rfl | rfl <;> rfl
theorem psC_at : ∀ (ms : List PrM) (i : Nat), i < ms.length → (psC ms)[i * 2]? = some (.int .i64 (ms.getD i default).p.part) ∧ (psC ms)[i * 2 + 1]? = some (.slice (ms.getD i default).a (ms.getD i default).p.code.length (ms.getD i default).c)
  | [], i, h => absurd h (Nat.not_lt_zero i)
  | t :: ts, 0, _ => ⟨rfl, rfl⟩
  | t :: ts, i + 1, h => by
    have ih := psC_at ts i (by simpa using h)
    simp only [psC, List.flatMap_cons, List.getD_cons_succ] at *
    rw [List.getElem?_append_right (by rw [show (prC t).length = 2 from rfl]; omega), List.getElem?_append_right (by rw [show (prC t).length = 2 from rfl]; omega), show (prC t).length = 2 from rfl, show (i + 1) * 2 - 2 = i * 2 by omega, show (i + 1) * 2 + 1 - 2 = i * 2 + 1 by omega]
    exact ih
def prD (m : PrM) : RowD := ⟨71, 5, m.a, m.p.code.length, m.c, pCells m.p.code⟩

/-- Where a config's lists lie. -/
structure Loc where
  la : Option Addr
  lc : Nat
  ta : Option Addr
  tc : Nat
  pa : Option Addr
  pc : Nat
  ms : List PrM
def cfA (c : Cfg) (g : Loc) : Array Value := #[.slice g.la c.labels.length g.lc, .slice g.ta c.table.length g.tc, .int .i64 c.fuel, .int .i64 c.lane, .int .i64 c.locks, .int .i64 c.log, .slice g.pa c.procs.length g.pc]
def cfV (c : Cfg) (g : Loc) : Value := .agg (cfA c g)
def noL : Loc := ⟨none, 0, none, 0, none, 0, []⟩
def cfD (c : Cfg) (g : Loc) : List RowD := ⟨65, 1, g.la, c.labels.length, g.lc, labC c.labels⟩ :: ⟨3, 1, g.ta, c.table.length, g.tc, iC c.table⟩ :: ⟨42, 2, g.pa, c.procs.length, g.pc, psC g.ms⟩ :: g.ms.map prD

/-- A config whose lists are the call's own. -/
structure CfO (B : Nat) (W : World) (c : Cfg) (g : Loc) : Prop where
  own : Owned B W (cfD c g)
  ps : psOf g.ms = c.procs

/-- A config that can be read. -/
structure CfR (W : World) (c : Cfg) (g : Loc) : Prop where
  lab : Rd W g.la (labC c.labels)
  tab : Rd W g.ta (iC c.table)
  prs : Rd W g.pa (psC g.ms)
  cod : ∀ m ∈ g.ms, Rd W m.a (pCells m.p.code)
  ps : psOf g.ms = c.procs

theorem CfO.rd {B : Nat} {W : World} {c : Cfg} {g : Loc} (h : CfO B W c g) : CfR W c g where
  lab := (h.own.ok _ List.mem_cons_self).rd
  tab := (h.own.ok _ (List.mem_cons_of_mem _ List.mem_cons_self)).rd
  prs := (h.own.ok _ (List.mem_cons_of_mem _ (List.mem_cons_of_mem _ List.mem_cons_self))).rd
  cod := fun m hm => (h.own.ok (prD m) (List.mem_cons_of_mem _ (List.mem_cons_of_mem _ (List.mem_cons_of_mem _ (List.mem_map_of_mem hm))))).rd
  ps := h.ps
theorem row_none {W : World} (e s : Nat) : (⟨e, s, none, 0, 0, []⟩ : RowD).ok W := Row.nil
theorem CfO.none (B : Nat) (W : World) : CfO B W noC noL :=
  ⟨(((Owned.nil B W).cons (row_none 42 2) (fun k hk => by cases hk) (fun d hd => by cases hd)).cons (row_none 3 1) (fun k hk => by cases hk) (fun d _ k hk => by cases hk)).cons (row_none 65 1) (fun k hk => by cases hk) (fun d _ k hk => by cases hk), rfl⟩
theorem CfR.below {W W' : World} {c : Cfg} {g : Loc} (h : CfR W c g) (hb : Below W.heap.size W W') : CfR W' c g := ⟨h.lab.below hb, h.tab.below hb, h.prs.below hb, fun m hm => (h.cod m hm).below hb, h.ps⟩
theorem CfO.below {B : Nat} {W W' : World} {c : Cfg} {g : Loc} (h : CfO B W c g) (hb : Below W.heap.size W W') : CfO B W' c g := ⟨h.own.below hb, h.ps⟩
theorem CfR.len {W : World} {c : Cfg} {g : Loc} (h : CfR W c g) : g.ms.length = c.procs.length := by rw [← h.ps, psOf_len]
theorem CfR.at {W : World} {c : Cfg} {g : Loc} (h : CfR W c g) (i : Nat) : (g.ms.getD i default).p = c.procs.getD i default := by
  rw [← h.ps]
  simp only [psOf, List.getD_eq_getElem?_getD, List.getElem?_map]
  cases g.ms[i]? <;> rfl
end Go.Proofs.YtmjokinagbpihaaDoor
