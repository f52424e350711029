/- A machine in memory: its parts, each at blocks of its own. -/
import Derived.Test.YthhcecllejddeaaGreatDoorGJb
import Derived.Test.YthhcecllejddeaaGreatDoorGJc
import Derived.Test.YthhcecllejddeaaGreatDoorGJd
import Derived.Test.YthhcecllejddeaaGreatDoorGMa
import Derived.Test.YthhcecllejddeaaGreatDoorGPa
import Derived.Test.YthhcecllejddeaaGreatDoorGPc
import Derived.Test.YthhcecllejddeaaGreatDoorGQc
import Derived.Test.YthhcecllejddeaaGreatDoorGQd
import Derived.Test.YthhcecllejddeaaGreatDoorGQy
import Derived.Test.YthhcecllejddeaaGreatDoorGUd
import Derived.Test.YthhcecllejddeaaGreatDoorGWd
import Derived.Laws.BitsAllLaws
import Derived.WalkSpells
import Derived.WalkLawsBesides
namespace Go.Proofs.YthhcecllejddeaaGreatDoor
open Go.RowKit
def ptC (bs : List Nat) : List Value := bs.map (fun b => .pointer (some ⟨b, 0, none⟩))
theorem ptC_at (l : List Nat) (i : Nat) (h : i < l.length) : (ptC l)[i]? = some (.pointer (some ⟨l.getD i 0, 0, none⟩)) := by
 simp [ptC, List.getD_eq_getElem?_getD, List.getElem?_eq_getElem h]
theorem ptC_app (l m : List Nat) : ptC (l ++ m) = ptC l ++ ptC m := by simp [ptC]
def enP (x : Int × Int × Int) : List Value := [.int .i64 x.1, .int .i64 x.2.1, .int .i64 x.2.2]
def enC (l : List (Int × Int × Int)) : List Value := l.flatMap enP
theorem enC_len (l : List (Int × Int × Int)) : (enC l).length = l.length * 3 := by
 induction l with
 | nil => rfl
 | cons x r ih => simp only [enC, List.flatMap_cons, List.length_append, List.length_cons] at *; rw [ih, show (enP x).length = 3 from rfl]; omega
theorem enC_one (l : List (Int × Int × Int)) : ∀ u ∈ enC l, u.oneCell' = true := by
 intro u hu
 simp only [enC, List.mem_flatMap, enP] at hu
 obtain ⟨x, _, hx⟩ := hu
 simp only [List.mem_cons, List.not_mem_nil, or_false] at hx
 rcases hx with rfl | rfl | rfl <;> rfl
structure Lay where
 c : Cfg
 g : Loc
 bm : Nat
 bt : Nat
 bs : Nat
 ap : Option Addr
 cp : Nat
 aq : Option Addr
 cq : Nat
 bp : Nat → Nat
 bl : Nat → Nat
 bw : Nat → Nat
 ar : Nat → Option Addr
 cr : Nat → Nat
 bq : Nat → Nat
 bo : Nat → Nat
 K : Nat → Prop
def Lay.ok (l : Lay) : Ix → Prop
 | .part i => i < l.c.labels.length
 | .lck i => i < l.c.labels.length
 | .whl i => i < l.c.labels.length
 | .proc p => p < l.c.procs.length
 | .pst p => p < l.c.procs.length
 | _ => True
def maA (l : Lay) (tick : Int) : Array Value := #[.slice l.g.la l.c.labels.length l.g.lc, .slice l.g.ta l.c.table.length l.g.tc, .int .i64 l.c.fuel, .int .i64 l.c.lane, .int .i64 l.c.locks, .int .i64 l.c.log, .slice l.g.pa l.c.procs.length l.g.pc,
 .pointer (some ⟨l.bt, 0, none⟩), .pointer (some ⟨l.bs, 0, none⟩), .int .i64 tick, .slice l.ap l.c.labels.length l.cp, .slice l.aq l.c.procs.length l.cq]
def paA (l : Lay) (i : Nat) (x : PtS) (la : Option Addr) (lc : Nat) : Array Value := #[.int .i64 (i : Int), .slice (l.ar i) (ofL l.c i).length (l.cr i), .int .i64 (x.cur : Int), .slice la x.log.length lc, .int .i64 x.lost, .int .i64 x.forb, .pointer (some ⟨l.bl i, 0, none⟩), .pointer (some ⟨l.bw i, 0, none⟩)]
def prM (l : Lay) (p : Nat) : PrM := l.g.ms.getD p default
def prA (l : Lay) (p : Nat) (x : PrS) : Array Value := #[.int .i64 (p : Int), .pointer (some ⟨l.bp (pa l.c p), 0, none⟩), .slice (prM l p).a (cd l.c p).length (prM l p).c, .int .i64 x.st,
 .int .i64 x.core.pc, .int .i64 (x.core.r 0), .int .i64 (x.core.r 1), .int .i64 (x.core.r 2), .int .i64 (x.core.r 3), .int .i64 (x.core.r 4), .int .i64 (x.core.r 5), .int .i64 (x.core.r 6), .int .i64 (x.core.r 7),
 .bool x.fired, .pointer (some ⟨l.bo p, 0, none⟩)]
def WOk (c : Cfg) (m : MS) (i : Nat) (L : List Wheel.Th) : Prop :=
 ∀ t, t ∈ L ↔ ∃ p : Nat, p ∈ ofL c i ∧ ((t = ((prOf m p).timer, 2 * (p : Int)) ∧ 0 < (prOf m p).timer) ∨ (t = ((prOf m p).wake, 2 * (p : Int) + 1) ∧ 0 < (prOf m p).wake))
def Cmp (l : Lay) (m : MS) : Ix → World → (Nat → Prop) → Prop
 | .head, w, F => w.heap[l.bm]? = some (.cells (maA l m.tick) 99 (0, 0)) ∧ Row w 100 1 l.ap l.c.labels.length l.cp (ptC ((List.range l.c.labels.length).map l.bp)) ∧ Row w 106 1 l.aq l.c.procs.length l.cq (ptC ((List.range l.c.procs.length).map l.bq)) ∧
   blk l.ap ≠ some l.bm ∧ blk l.aq ≠ some l.bm ∧ F l.bm ∧ (∀ k, blk l.ap = some k → F k) ∧ ∀ k, blk l.aq = some k → F k
 | .tbl, w, F => ∃ a cap mb, w.heap[l.bt]? = some (.cells #[.slice a l.c.labels.length cap, .map (some mb)] 184 (0, 0)) ∧ Row w 29 1 a l.c.labels.length cap (labC l.c.labels) ∧ F l.bt ∧ ∀ k, blk a = some k → F k
 | .slt, w, F => ∃ a cap, w.heap[l.bs]? = some (.cells #[.slice a l.c.table.length cap] 181 (0, 0)) ∧ Row w 3 1 a l.c.table.length cap (iC l.c.table) ∧ F l.bs ∧ ∀ k, blk a = some k → F k
 | .part i, w, F => ∃ la lc, w.heap[l.bp i]? = some (.cells (paA l i (ptOf m i) la lc) 152 (0, 0)) ∧ Row w 106 1 (l.ar i) (ofL l.c i).length (l.cr i) (ptC ((ofL l.c i).map l.bq)) ∧ Row w 163 3 la (ptOf m i).log.length lc (enC (ptOf m i).log) ∧
   blk (l.ar i) ≠ some (l.bp i) ∧ blk la ≠ some (l.bp i) ∧ (∀ k, blk la = some k → blk (l.ar i) ≠ some k) ∧ F (l.bp i) ∧ (∀ k, blk (l.ar i) = some k → F k) ∧ ∀ k, blk la = some k → F k
 | .lck i, w, F => Locks.Lk w (l.bl i) F (ptOf m i).os (ptOf m i).qs
 | .whl i, w, F => ∃ L, Wheel.Wh w (l.bw i) F L ∧ WOk l.c m i L
 | .proc p, w, F => w.heap[l.bq p]? = some (.cells (prA l p (prOf m p)) 147 (0, 0)) ∧ F (l.bq p)
 | .pst p, w, F => Lane.Ps w 214 263 215 (l.bo p) F (prOf m p).ss (prOf m p).lc
theorem Cmp.mod {l : Lay} {m : MS} {x : Ix} {w w' : World} {F S : Nat → Prop} (h : Cmp l m x w F) (hm : Mod S w w') (hn : ∀ k, F k → ¬ S k) : Cmp l m x w' F := by
 cases x with
 | head =>
  obtain ⟨h1, h2, h3, h4, h5, h6, h7, h8⟩ := h
  exact ⟨by rw [hm.block l.bm (Array.getElem?_eq_some_iff.1 h1).1 (hn _ h6)]; exact h1, h2.mod hm (fun k hk => hn k (h7 k hk)), h3.mod hm (fun k hk => hn k (h8 k hk)), h4, h5, h6, h7, h8⟩
 | tbl =>
  obtain ⟨a, cap, mb, h1, h2, h3, h4⟩ := h
  exact ⟨a, cap, mb, by rw [hm.block l.bt (Array.getElem?_eq_some_iff.1 h1).1 (hn _ h3)]; exact h1, h2.mod hm (fun k hk => hn k (h4 k hk)), h3, h4⟩
 | slt =>
  obtain ⟨a, cap, h1, h2, h3, h4⟩ := h
  exact ⟨a, cap, by rw [hm.block l.bs (Array.getElem?_eq_some_iff.1 h1).1 (hn _ h3)]; exact h1, h2.mod hm (fun k hk => hn k (h4 k hk)), h3, h4⟩
 | part i =>
  obtain ⟨la, lc, h1, h2, h3, h4, h5, h6, h7, h8, h9⟩ := h
  exact ⟨la, lc, by rw [hm.block _ (Array.getElem?_eq_some_iff.1 h1).1 (hn _ h7)]; exact h1, h2.mod hm (fun k hk => hn k (h8 k hk)), h3.mod hm (fun k hk => hn k (h9 k hk)), h4, h5, h6, h7, h8, h9⟩
 | lck i => exact Locks.Lk.mod h hm hn
 | whl i =>
  obtain ⟨L, h1, h2⟩ := h
  exact ⟨L, h1.mod hm hn, h2⟩
 | proc p =>
  obtain ⟨h1, h2⟩ := h
  exact ⟨by rw [hm.block _ (Array.getElem?_eq_some_iff.1 h1).1 (hn _ h2)]; exact h1, h2⟩
 | pst p => exact Lane.Ps.mod h hm hn
theorem Cmp.agr {l : Lay} {m m' : MS} {x : Ix} {w : World} {F : Nat → Prop} (ha : Agr l.c m m' x) (h : Cmp l m x w F) : Cmp l m' x w F := by
 cases x with
 | head =>
  simp only [Agr] at ha
  simpa only [Cmp, ha] using h
 | tbl => exact h
 | slt => exact h
 | part i =>
  obtain ⟨h1, h2, h3, h4⟩ := ha
  simpa only [Cmp, paA, h1, h2, h3, h4] using h
 | lck i =>
  obtain ⟨h1, h2⟩ := ha
  simpa only [Cmp, h1, h2] using h
 | whl i =>
  obtain ⟨L, h1, h2⟩ := h
  refine ⟨L, h1, fun t => (h2 t).trans ?_⟩
  constructor
  ·rintro ⟨p, hp, h⟩
   obtain ⟨e1, e2⟩ := ha p hp
   exact ⟨p, hp, by rw [e1, e2]; exact h⟩
  ·rintro ⟨p, hp, h⟩
   obtain ⟨e1, e2⟩ := ha p hp
   exact ⟨p, hp, by rw [e1, e2] at h; exact h⟩
 | proc p =>
  obtain ⟨h1, h2, h3⟩ := ha
  simpa only [Cmp, prA, h1, h2, h3] using h
 | pst p =>
  obtain ⟨h1, h2⟩ := ha
  simpa only [Cmp, h1, h2] using h
def cfB (g : Loc) (k : Nat) : Prop := blk g.la = some k ∨ blk g.ta = some k ∨ blk g.pa = some k ∨ ∃ m ∈ g.ms, blk m.a = some k
theorem CfR.mod {w w' : World} {c : Cfg} {g : Loc} {S : Nat → Prop} (h : CfR w c g) (hm : Mod S w w') (hn : ∀ k, cfB g k → ¬ S k) : CfR w' c g :=
 ⟨h.lab.mod (fun k hk _ => hn k (.inl hk)) hm, h.tab.mod (fun k hk _ => hn k (.inr (.inl hk))) hm, h.prs.mod (fun k hk _ => hn k (.inr (.inr (.inl hk)))) hm, fun x hx => (h.cod x hx).mod (fun k hk _ => hn k (.inr (.inr (.inr ⟨x, hx, hk⟩)))) hm, h.ps⟩
structure Base (w : World) (l : Lay) : Prop where
 cf : CfR w l.c l.g
 fld : Fld w
 lim : Lim w
 kc : ∀ k, cfB l.g k → l.K k
 kf : l.K 1
 kl : l.K 0
 klt : ∀ k, l.K k → k < w.heap.size
theorem Base.mod {w w' : World} {l : Lay} {S : Nat → Prop} (h : Base w l) (hm : Mod S w w') (hn : ∀ k, l.K k → ¬ S k) : Base w' l :=
 ⟨CfR.mod h.cf hm (fun k hk => hn k (h.kc k hk)), Fld.mod h.fld hm (hn _ h.kf), h.lim.mod hm (hn _ h.kl), h.kc, h.kf, h.kl, fun k hk => Nat.lt_of_lt_of_le (h.klt k hk) hm.size⟩
structure MAt (w : World) (l : Lay) (m : MS) (Fs : Ix → Nat → Prop) : Prop where
 base : Base w l
 cmp : ∀ x, l.ok x → Cmp l m x w (Fs x)
 lt : ∀ x, l.ok x → ∀ k, Fs x k → k < w.heap.size
 ap : ∀ x y, l.ok x → l.ok y → x ≠ y → ∀ k, Fs x k → ¬ Fs y k
 ke : ∀ x, l.ok x → ∀ k, Fs x k → ¬ l.K k
def Mk (w : World) (l : Lay) (U : Nat → Prop) (m : MS) : Prop := ∃ Fs, MAt w l m Fs ∧ (∀ x, l.ok x → ∀ k, Fs x k → U k) ∧ (∀ k, U k → k < w.heap.size) ∧ ∀ k, U k → ¬ l.K k
def MkOut (w : World) (l : Lay) (U : Nat → Prop) (m' : MS) (w' : World) : Prop := Mod U w w' ∧ ∃ U', Mk w' l U' m' ∧ ∀ k, U' k → U k ∨ w.heap.size ≤ k
section
variable {w w' : World} {l : Lay} {m m' : MS} {U : Nat → Prop}
theorem Mk.mod {S : Nat → Prop} (h : Mk w l U m) (hm : Mod S w w') (hn : ∀ k, U k → ¬ S k) (hk : ∀ k, l.K k → ¬ S k) : Mk w' l U m := by
 obtain ⟨Fs, h1, h2, h3, h4⟩ := h
 exact ⟨Fs, ⟨h1.base.mod hm hk, fun x hx => (h1.cmp x hx).mod hm (fun k hk => hn k (h2 x hx k hk)), fun x hx k hk => Nat.lt_of_lt_of_le (h1.lt x hx k hk) hm.size, h1.ap, h1.ke⟩, h2, fun k hk => Nat.lt_of_lt_of_le (h3 k hk) hm.size, h4⟩
theorem Mk.below (h : Mk w l U m) (hb : Below w.heap.size w w') : Mk w' l U m := h.mod (Mod.of_below (fun _ => False) hb) (fun _ _ h => h) (fun _ _ h => h)
theorem Mk.base (h : Mk w l U m) : Base w l := by
 obtain ⟨Fs, h1, _⟩ := h
 exact h1.base
theorem Mk.out (h : Mk w l U m) (hb : Below w.heap.size w w') : MkOut w l U m w' := ⟨Mod.of_below _ hb, U, h.below hb, fun _ h => .inl h⟩
theorem MkOut.ahead {w0 : World} (hb : Below w0.heap.size w0 w) (h : MkOut w l U m' w') : MkOut w0 l U m' w' := by
 obtain ⟨a, U', b, c⟩ := h
 refine ⟨(Mod.of_below U hb).trans a (fun k hk => .inl hk), U', b, fun k hk => ?_⟩
 rcases c k hk with h | h
 ·exact .inl h
 ·exact .inr (Nat.le_trans hb.size h)
theorem Mk.openX (h : Mk w l U m) (x : Ix) (hx : l.ok x) : ∃ F, Cmp l m x w F ∧ (∀ k, F k → U k) ∧ ∀ w' m' F', Mod F w w' → Cmp l m' x w' F' → (∀ k, F' k → F k ∨ w.heap.size ≤ k) → (∀ k, F' k → k < w'.heap.size) → (∀ y, y ≠ x → Agr l.c m m' y) → Mod U w w' ∧ ∃ U', Mk w' l U' m' ∧ ∀ k, U' k → U k ∨ F' k := by
 obtain ⟨Fs, h1, h2, h3, h4⟩ := h
 refine ⟨Fs x, h1.cmp x hx, h2 x hx, fun w' m' F' hm hc hn hlt ho => ?_⟩
 have hKl : ∀ k, l.K k → ¬ Fs x k := fun k hk hf => h1.ke x hx k hf hk
 have hKn : ∀ k, F' k → ¬ l.K k := fun k hk hK => by
  rcases hn k hk with h | h
  ·exact h1.ke x hx k h hK
  ·have := h1.base.klt k hK
   omega
 refine ⟨hm.mono (fun k _ hk => h2 x hx k hk), fun k => (U k ∨ F' k) ∧ k < w'.heap.size ∧ ¬ l.K k, ⟨fun y k => (y = x ∧ F' k) ∨ (y ≠ x ∧ Fs y k), ⟨h1.base.mod hm hKl, ?_, ?_, ?_, ?_⟩, ?_, fun k hk => hk.2.1, fun k hk => hk.2.2⟩, fun k hk => hk.1⟩
 ·intro y hy
  by_cases e : y = x
  ·subst e
   have : (fun k => (y = y ∧ F' k) ∨ (y ≠ y ∧ Fs y k)) = F' := funext fun k => by simp
   rw [this]
   exact hc
  ·have : (fun k => (y = x ∧ F' k) ∨ (y ≠ x ∧ Fs y k)) = Fs y := funext fun k => by simp [e]
   rw [this]
   exact Cmp.agr (ho y e) ((h1.cmp y hy).mod hm (fun k hk hk2 => h1.ap y x hy hx e k hk hk2))
 ·rintro y hy k (⟨rfl, hk⟩ | ⟨_, hk⟩)
  ·exact hlt k hk
  ·exact Nat.lt_of_lt_of_le (h1.lt y hy k hk) hm.size
 ·rintro y z hy hz hyz k (⟨rfl, hk⟩ | ⟨e, hk⟩) (⟨rfl, hk2⟩ | ⟨e2, hk2⟩)
  ·exact hyz rfl
  ·rcases hn k hk with h | h
   ·exact h1.ap y z hy hz hyz k h hk2
   ·have := h1.lt z hz k hk2
    omega
  ·rcases hn k hk2 with h | h
   ·exact h1.ap y z hy hz hyz k hk h
   ·have := h1.lt y hy k hk
    omega
  ·exact h1.ap y z hy hz hyz k hk hk2
 ·rintro y hy k (⟨rfl, hk⟩ | ⟨_, hk⟩)
  ·exact hKn k hk
  ·exact h1.ke y hy k hk
 ·rintro y hy k (⟨rfl, hk⟩ | ⟨_, hk⟩)
  ·exact ⟨.inr hk, hlt k hk, hKn k hk⟩
  ·exact ⟨.inl (h2 y hy k hk), Nat.lt_of_lt_of_le (h1.lt y hy k hk) hm.size, h1.ke y hy k hk⟩
theorem Mk.open_ (h : Mk w l U m) (x : Ix) (hx : l.ok x) : ∃ F, Cmp l m x w F ∧ (∀ k, F k → U k) ∧ ∀ w' m' F', Mod F w w' → Cmp l m' x w' F' → (∀ k, F' k → F k ∨ w.heap.size ≤ k) → (∀ k, F' k → k < w'.heap.size) → (∀ y, y ≠ x → Agr l.c m m' y) → MkOut w l U m' w' := by
 obtain ⟨F, h1, h2, h3⟩ := h.openX x hx
 refine ⟨F, h1, h2, fun w' m' F' a b c d e => ?_⟩
 obtain ⟨h4, U', h5, h6⟩ := h3 w' m' F' a b c d e
 refine ⟨h4, U', h5, fun k hk => ?_⟩
 rcases h6 k hk with h | h
 ·exact .inl h
 ·rcases c k h with h' | h'
  ·exact .inl (h2 k h')
  ·exact .inr h'
def MkOutR (w : World) (l : Lay) (U : Nat → Prop) (m' : MS) (A : Nat → Prop) (w' : World) : Prop := Mod U w w' ∧ ∃ U', Mk w' l U' m' ∧ (∀ k, U' k → U k ∨ w.heap.size ≤ k) ∧ ∀ k, A k → ¬ U' k
theorem Mk.lt (h : Mk w l U m) : ∀ k, U k → k < w.heap.size := by
 obtain ⟨Fs, h1, h2, h3, h4⟩ := h
 exact h3
theorem Mk.lck (h : Mk w l U m) {i : Nat} (hi : i < l.c.labels.length) : ∃ F, Locks.Lk w (l.bl i) F (ptOf m i).os (ptOf m i).qs ∧ (∀ k, F k → U k) ∧ ∀ w' m' F', Mod F w w' → Locks.Lk w' (l.bl i) F' (ptOf m' i).os (ptOf m' i).qs → (∀ k, F' k → F k ∨ w.heap.size ≤ k) → (∀ y, y ≠ .lck i → Agr l.c m m' y) → Mod U w w' ∧ ∃ U', Mk w' l U' m' ∧ ∀ k, U' k → U k ∨ F' k := by
 obtain ⟨F, h1, h2, h3⟩ := h.openX (.lck i) hi
 exact ⟨F, h1, h2, fun w' m' F' a b c d => h3 w' m' F' a b c (Locks.Lk.lt b) d⟩
theorem Mk.pst (h : Mk w l U m) {p : Nat} (hp : p < l.c.procs.length) : ∃ F, Lane.Ps w 214 263 215 (l.bo p) F (prOf m p).ss (prOf m p).lc ∧ (∀ k, F k → U k) ∧ ∀ w' m' F', Mod F w w' → Lane.Ps w' 214 263 215 (l.bo p) F' (prOf m' p).ss (prOf m' p).lc → (∀ k, F' k → F k ∨ w.heap.size ≤ k) → (∀ y, y ≠ .pst p → Agr l.c m m' y) → Mod U w w' ∧ ∃ U', Mk w' l U' m' ∧ ∀ k, U' k → U k ∨ F' k := by
 obtain ⟨F, h1, h2, h3⟩ := h.openX (.pst p) hp
 exact ⟨F, h1, h2, fun w' m' F' a b c d => h3 w' m' F' a b c (Lane.Ps.lt b) d⟩
theorem Mk.whl (h : Mk w l U m) {i : Nat} (hi : i < l.c.labels.length) : ∃ F L, Wheel.Wh w (l.bw i) F L ∧ WOk l.c m i L ∧ (∀ k, F k → U k) ∧ ∀ w' m' F' L', Mod F w w' → Wheel.Wh w' (l.bw i) F' L' → WOk l.c m' i L' → (∀ k, F' k → F k ∨ w.heap.size ≤ k) → (∀ y, y ≠ .whl i → Agr l.c m m' y) → Mod U w w' ∧ ∃ U', Mk w' l U' m' ∧ ∀ k, U' k → U k ∨ F' k := by
 obtain ⟨F, ⟨L, h1, h1'⟩, h2, h3⟩ := h.openX (.whl i) hi
 exact ⟨F, L, h1, h1', h2, fun w' m' F' L' a b b' c d => h3 w' m' F' a ⟨L', b, b'⟩ c (Wheel.Wh.lt b) d⟩
theorem MkOut.of {F F' : Nat → Prop} (h2 : ∀ k, F k → U k) (hn : ∀ k, F' k → F k ∨ w.heap.size ≤ k) (h : Mod U w w' ∧ ∃ U', Mk w' l U' m' ∧ ∀ k, U' k → U k ∨ F' k) : MkOut w l U m' w' := by
 obtain ⟨h4, U', h5, h6⟩ := h
 refine ⟨h4, U', h5, fun k hk => ?_⟩
 rcases h6 k hk with h | h
 ·exact .inl h
 ·rcases hn k h with h' | h'
  ·exact .inl (h2 k h')
  ·exact .inr h'
theorem MkOutR.of {F F' A : Nat → Prop} (hk : Mk w l U m) (h2 : ∀ k, F k → U k) (hn : ∀ k, F' k → F k ∨ w.heap.size ≤ k) (hA : ∀ k, A k → w.heap.size ≤ k ∧ ¬ F' k) (h : Mod U w w' ∧ ∃ U', Mk w' l U' m' ∧ ∀ k, U' k → U k ∨ F' k) : MkOutR w l U m' A w' := by
 have hlt := hk.lt
 obtain ⟨h4, U', h5, h6⟩ := h
 refine ⟨h4, U', h5, fun k hk => ?_, fun k hk hk2 => ?_⟩
 ·rcases h6 k hk with h | h
  ·exact .inl h
  ·rcases hn k h with h' | h'
   ·exact .inl (h2 k h')
   ·exact .inr h'
 ·obtain ⟨a, b⟩ := hA k hk
  rcases h6 k hk2 with h | h
  ·have := hlt k h
   omega
  ·exact b h
end
end Go.Proofs.YthhcecllejddeaaGreatDoor

namespace Go.Proofs.YthhcecllejddeaaGreatDoor
open Go.RowKit
section
variable {w w' : World} {l : Lay} {m : MS} {U : Nat → Prop} {p i : Nat}
theorem Mk.procAt (h : Mk w l U m) (hp : p < l.c.procs.length) : w.heap[l.bq p]? = some (.cells (prA l p (prOf m p)) 147 (0, 0)) := by
 obtain ⟨Fs, h1, _⟩ := h
 exact (h1.cmp (.proc p) hp).1
theorem Mk.headAt (h : Mk w l U m) : w.heap[l.bm]? = some (.cells (maA l m.tick) 99 (0, 0)) := by
 obtain ⟨Fs, h1, _⟩ := h
 exact (h1.cmp .head trivial).1
theorem Mk.partsAt (h : Mk w l U m) : Row w 100 1 l.ap l.c.labels.length l.cp (ptC ((List.range l.c.labels.length).map l.bp)) := by
 obtain ⟨Fs, h1, _⟩ := h
 exact (h1.cmp .head trivial).2.1
theorem Mk.procsAt (h : Mk w l U m) : Row w 106 1 l.aq l.c.procs.length l.cq (ptC ((List.range l.c.procs.length).map l.bq)) := by
 obtain ⟨Fs, h1, _⟩ := h
 exact (h1.cmp .head trivial).2.2.1
theorem range_at {n i : Nat} {f : Nat → Nat} (h : i < n) : ((List.range n).map f).getD i 0 = f i := by
 rw [List.getD_eq_getElem?_getD, List.getElem?_map, List.getElem?_range h]
 rfl
theorem Mk.partPtr (h : Mk w l U m) (hi : i < l.c.labels.length) : ∃ g, l.ap = some ⟨g, 0, none⟩ ∧ w.cell? ⟨g, i, none⟩ = some (.pointer (some ⟨l.bp i, 0, none⟩)) := by
 obtain ⟨g, e, hc⟩ := h.partsAt.cell i (by omega)
 exact ⟨g, e, by rw [hc, ptC_at _ i (by simpa using hi), range_at hi]⟩
theorem Mk.procPtr (h : Mk w l U m) (hp : p < l.c.procs.length) : ∃ g, l.aq = some ⟨g, 0, none⟩ ∧ w.cell? ⟨g, p, none⟩ = some (.pointer (some ⟨l.bq p, 0, none⟩)) := by
 obtain ⟨g, e, hc⟩ := h.procsAt.cell p (by omega)
 exact ⟨g, e, by rw [hc, ptC_at _ p (by simpa using hp), range_at hp]⟩
theorem Mk.partAt (h : Mk w l U m) (hi : i < l.c.labels.length) : ∃ la lc, w.heap[l.bp i]? = some (.cells (paA l i (ptOf m i) la lc) 152 (0, 0)) ∧ Row w 106 1 (l.ar i) (ofL l.c i).length (l.cr i) (ptC ((ofL l.c i).map l.bq)) ∧ Row w 163 3 la (ptOf m i).log.length lc (enC (ptOf m i).log) := by
 obtain ⟨Fs, h1, _⟩ := h
 obtain ⟨la, lc, a, b, c, _⟩ := h1.cmp (.part i) hi
 exact ⟨la, lc, a, b, c⟩
structure PrC (w : World) (l : Lay) (p : Nat) (x : PrS) : Prop where
 c0 : w.cell? ⟨l.bq p, 0, none⟩ = some (.int .i64 (p : Int))
 c1 : w.cell? ⟨l.bq p, 1, none⟩ = some (.pointer (some ⟨l.bp (pa l.c p), 0, none⟩))
 c2 : w.cell? ⟨l.bq p, 2, none⟩ = some (.slice (prM l p).a (cd l.c p).length (prM l p).c)
 c3 : w.cell? ⟨l.bq p, 3, none⟩ = some (.int .i64 x.st)
 c4 : w.cell? ⟨l.bq p, 4, none⟩ = some (.int .i64 x.core.pc)
 c5 : w.cell? ⟨l.bq p, 5, none⟩ = some (.int .i64 (x.core.r 0))
 c6 : w.cell? ⟨l.bq p, 6, none⟩ = some (.int .i64 (x.core.r 1))
 c7 : w.cell? ⟨l.bq p, 7, none⟩ = some (.int .i64 (x.core.r 2))
 c8 : w.cell? ⟨l.bq p, 8, none⟩ = some (.int .i64 (x.core.r 3))
 c9 : w.cell? ⟨l.bq p, 9, none⟩ = some (.int .i64 (x.core.r 4))
 c10 : w.cell? ⟨l.bq p, 10, none⟩ = some (.int .i64 (x.core.r 5))
 c11 : w.cell? ⟨l.bq p, 11, none⟩ = some (.int .i64 (x.core.r 6))
 c12 : w.cell? ⟨l.bq p, 12, none⟩ = some (.int .i64 (x.core.r 7))
 c13 : w.cell? ⟨l.bq p, 13, none⟩ = some (.bool x.fired)
 c14 : w.cell? ⟨l.bq p, 14, none⟩ = some (.pointer (some ⟨l.bo p, 0, none⟩))
 fr : ∀ i, w.frozen? ⟨l.bq p, i, none⟩ = false
theorem prC_of {x : PrS} (h : w.heap[l.bq p]? = some (.cells (prA l p x) 147 (0, 0))) : PrC w l p x := by
 constructor
 case fr => intro i; simp [World.frozen?, h]
 all_goals (rw [cell_of_row _ _ _ _ _ _ h]; rfl)
theorem Mk.prC (h : Mk w l U m) (hp : p < l.c.procs.length) : PrC w l p (prOf m p) := prC_of (h.procAt hp)
theorem Mk.putProc (h : Mk w l U m) (hs : Shp l.c m) (hp : p < l.c.procs.length) {f : PrS → PrS} (h1 : ∀ x, (f x).timer = x.timer) (h2 : ∀ x, (f x).wake = x.wake) (h3 : ∀ x, (f x).ss = x.ss) (h4 : ∀ x, (f x).lc = x.lc)
  (hm : Mod (fun k => k = l.bq p) w w') (hh : w'.heap[l.bq p]? = some (.cells (prA l p (f (prOf m p))) 147 (0, 0))) : MkOut w l U (m.modP p f) w' := by
 have hp' : p < m.pr.length := by rw [hs.nq]; exact hp
 obtain ⟨F, ⟨hb, hF⟩, _, hgo⟩ := h.open_ (.proc p) hp
 refine hgo w' _ (fun k => k = l.bq p) (hm.mono (fun k _ e => by rw [e]; exact hF)) ⟨by rw [prOf_same hp']; exact hh, rfl⟩ (fun k e => .inl (by rw [e]; exact hF)) (fun k e => by rw [e]; exact (Array.getElem?_eq_some_iff.1 hh).1) (fun y hy => agr_proc h1 h2 h3 h4 hp' hy)
end
def To (w : World) (U : Nat → Prop) (w' : World) (U' : Nat → Prop) : Prop := Mod U w w' ∧ ∀ k, U' k → U k ∨ w.heap.size ≤ k
theorem To.refl (w : World) (U : Nat → Prop) : To w U w U := ⟨Mod.refl _ _, fun _ h => .inl h⟩
theorem To.trans {w w1 w2 : World} {U U1 U2 : Nat → Prop} (h : To w U w1 U1) (k : To w1 U1 w2 U2) : To w U w2 U2 :=
 ⟨h.1.trans k.1 h.2, fun i hi => by
  rcases k.2 i hi with h1 | h1
  ·exact h.2 i h1
  ·exact .inr (Nat.le_trans h.1.size h1)⟩
theorem To.bel {w w1 w2 : World} {U U1 : Nat → Prop} (h : To w U w1 U1) (hb : Below w1.heap.size w1 w2) : To w U w2 U1 := h.trans ⟨Mod.of_below _ hb, fun _ h => .inl h⟩
theorem To.of_bel {w w1 : World} {U : Nat → Prop} (hb : Below w.heap.size w w1) : To w U w1 U := (To.refl w U).bel hb
theorem MkOut.get {w w' : World} {l : Lay} {U : Nat → Prop} {m : MS} (h : MkOut w l U m w') : ∃ U', To w U w' U' ∧ Mk w' l U' m := by
 obtain ⟨a, U', b, c⟩ := h
 exact ⟨U', ⟨a, c⟩, b⟩
theorem To.out {w w1 w2 : World} {l : Lay} {U U1 : Nat → Prop} {m : MS} (t : To w U w1 U1) (h : MkOut w1 l U1 m w2) : MkOut w l U m w2 := by
 obtain ⟨U2, t2, k⟩ := h.get
 have := t.trans t2
 exact ⟨this.1, U2, k, this.2⟩
theorem To.mk {w w' : World} {l : Lay} {U U' : Nat → Prop} {m : MS} (t : To w U w' U') (h : Mk w' l U' m) : MkOut w l U m w' := ⟨t.1, U', h, t.2⟩
theorem Mk.paC {w : World} {l : Lay} {U : Nat → Prop} {m : MS} (h : Mk w l U m) {i : Nat} (hi : i < l.c.labels.length) : w.cell? ⟨l.bp i, 0, none⟩ = some (.int .i64 (i : Int)) ∧ w.cell? ⟨l.bp i, 1, none⟩ = some (.slice (l.ar i) (ofL l.c i).length (l.cr i)) ∧ w.cell? ⟨l.bp i, 2, none⟩ = some (.int .i64 ((ptOf m i).cur : Int)) ∧ w.cell? ⟨l.bp i, 4, none⟩ = some (.int .i64 (ptOf m i).lost) ∧ w.cell? ⟨l.bp i, 5, none⟩ = some (.int .i64 (ptOf m i).forb) ∧
  w.cell? ⟨l.bp i, 6, none⟩ = some (.pointer (some ⟨l.bl i, 0, none⟩)) ∧ w.cell? ⟨l.bp i, 7, none⟩ = some (.pointer (some ⟨l.bw i, 0, none⟩)) ∧ ∀ j, w.frozen? ⟨l.bp i, j, none⟩ = false := by
 obtain ⟨la, lc, h1, _, _⟩ := h.partAt hi
 refine ⟨?_, ?_, ?_, ?_, ?_, ?_, ?_, fun j => by simp [World.frozen?, h1]⟩ <;> (rw [cell_of_row _ _ _ _ _ _ h1]; rfl)
theorem Mk.maC {w : World} {l : Lay} {U : Nat → Prop} {m : MS} (h : Mk w l U m) : w.cell? ⟨l.bm, 2, none⟩ = some (.int .i64 l.c.fuel) ∧ w.cell? ⟨l.bm, 5, none⟩ = some (.int .i64 l.c.log) ∧ w.cell? ⟨l.bm, 7, none⟩ = some (.pointer (some ⟨l.bt, 0, none⟩)) ∧ w.cell? ⟨l.bm, 8, none⟩ = some (.pointer (some ⟨l.bs, 0, none⟩)) ∧
  w.cell? ⟨l.bm, 9, none⟩ = some (.int .i64 m.tick) ∧ w.cell? ⟨l.bm, 10, none⟩ = some (.slice l.ap l.c.labels.length l.cp) ∧ w.cell? ⟨l.bm, 11, none⟩ = some (.slice l.aq l.c.procs.length l.cq) ∧ ∀ j, w.frozen? ⟨l.bm, j, none⟩ = false := by
 have h1 := h.headAt
 refine ⟨?_, ?_, ?_, ?_, ?_, ?_, ?_, fun j => by simp [World.frozen?, h1]⟩ <;> (rw [cell_of_row _ _ _ _ _ _ h1]; rfl)
def put9 (W : World) (b : Nat) (c : Cpu.Core) : World :=
 ((((((((W.setCell ⟨b, 4, none⟩ (.int .i64 c.pc)).setCell ⟨b, 5, none⟩ (.int .i64 (c.r 0))).setCell ⟨b, 6, none⟩ (.int .i64 (c.r 1))).setCell ⟨b, 7, none⟩ (.int .i64 (c.r 2))).setCell ⟨b, 8, none⟩ (.int .i64 (c.r 3))).setCell ⟨b, 9, none⟩ (.int .i64 (c.r 4))).setCell ⟨b, 10, none⟩ (.int .i64 (c.r 5))).setCell ⟨b, 11, none⟩ (.int .i64 (c.r 6))).setCell ⟨b, 12, none⟩ (.int .i64 (c.r 7))
theorem mod_set (W : World) (b o : Nat) (u : Value) : Mod (fun k => k = b) W (W.setCell ⟨b, o, none⟩ u) := (Mod.refl (fun k => k = b) W).setCell (.inl rfl) u
theorem mod_sets {W V : World} {b : Nat} (h : Mod (fun k => k = b) W V) (o : Nat) (u : Value) : Mod (fun k => k = b) W (V.setCell ⟨b, o, none⟩ u) := h.setCell (.inl rfl) u
theorem put9_mod (W : World) (b : Nat) (c : Cpu.Core) : Mod (fun k => k = b) W (put9 W b c) := by
 unfold put9
 iterate 8 refine mod_sets ?_ _ _
 exact mod_set _ _ _ _
theorem fif_set (v0 v1 v2 v3 v4 v5 v6 v7 v8 v9 v10 v11 v12 v13 v14 u4 u5 u6 u7 u8 u9 u10 u11 u12 : Value) : (((((((((#[v0, v1, v2, v3, v4, v5, v6, v7, v8, v9, v10, v11, v12, v13, v14].setIfInBounds 4 u4).setIfInBounds 5 u5).setIfInBounds 6 u6).setIfInBounds 7 u7).setIfInBounds 8 u8).setIfInBounds 9 u9).setIfInBounds 10 u10).setIfInBounds 11 u11).setIfInBounds 12 u12) = #[v0, v1, v2, v3, u4, u5, u6, u7, u8, u9, u10, u11, u12, v13, v14] := by simp
theorem put9_at {W : World} {l : Lay} {p : Nat} {x : PrS} (h : W.heap[l.bq p]? = some (.cells (prA l p x) 147 (0, 0))) (c : Cpu.Core) : (put9 W (l.bq p) c).heap[l.bq p]? = some (.cells (prA l p { x with core := c }) 147 (0, 0)) := by
 unfold put9
 have h1 := heap_setCell_self (i := 12) (heap_setCell_self (i := 11) (heap_setCell_self (i := 10) (heap_setCell_self (i := 9) (heap_setCell_self (i := 8) (heap_setCell_self (i := 7) (heap_setCell_self (i := 6) (heap_setCell_self (i := 5) (heap_setCell_self (i := 4) h (.int .i64 c.pc)) (.int .i64 (c.r 0))) (.int .i64 (c.r 1))) (.int .i64 (c.r 2))) (.int .i64 (c.r 3))) (.int .i64 (c.r 4))) (.int .i64 (c.r 5))) (.int .i64 (c.r 6))) (.int .i64 (c.r 7))
 rw [h1]
 unfold prA
 rw [fif_set]
theorem putS_at {W : World} {l : Lay} {p : Nat} {x : PrS} (h : W.heap[l.bq p]? = some (.cells (prA l p x) 147 (0, 0))) (s : Int) : (W.setCell ⟨l.bq p, 3, none⟩ (.int .i64 s)).heap[l.bq p]? = some (.cells (prA l p { x with st := s }) 147 (0, 0)) := by
 rw [heap_setCell_self h]
 rfl
theorem putF_at {W : World} {l : Lay} {p : Nat} {x : PrS} (h : W.heap[l.bq p]? = some (.cells (prA l p x) 147 (0, 0))) (s : Bool) : (W.setCell ⟨l.bq p, 13, none⟩ (.bool s)).heap[l.bq p]? = some (.cells (prA l p { x with fired := s }) 147 (0, 0)) := by
 rw [heap_setCell_self h]
 rfl
theorem Mk.prg {w : World} {l : Lay} {U : Nat → Prop} {m : MS} (h : Mk w l U m) {p : Nat} (hp : p < l.c.procs.length) : Prg w (prM l p).a (cd l.c p) := by
 have hb := h.base
 have hl := hb.cf.len
 have hmem : l.g.ms.getD p default ∈ l.g.ms := by
  rw [List.getD_eq_getElem?_getD, List.getElem?_eq_getElem (by omega)]
  exact List.getElem_mem _
 have := hb.cf.cod _ hmem
 rw [hb.cf.at] at this
 exact prg_of_rd this
end Go.Proofs.YthhcecllejddeaaGreatDoor

namespace Go.Proofs.YthhcecllejddeaaGreatDoor
open Go.RowKit
theorem bel_drew (w : World) : Below w.heap.size w w.drew := (Below.refl _ w).drew
theorem bel_dr {w w1 : World} (h : Below w.drew.heap.size w.drew w1) : Below w.heap.size w w1 := (bel_drew w).trans (h.mono (Nat.le_refl _))
theorem prg_draw {w : World} {a : Option Addr} {l : List Ins} (h : Prg w a l) : Prg w.drew a l := h.kept (bel_drew w)
section
variable {w w' : World} {l : Lay} {m : MS} {U : Nat → Prop} {p : Nat}
set_option maxRecDepth 100000 in
set_option maxHeartbeats 2000000 in
theorem goOn_any (h : Mk w l U m) (hs : Shp l.c m) (hp : p < l.c.procs.length) : Calls Tryz.prog 138 #[.pointer (some ⟨l.bq p, 0, none⟩)] w fun e w' => e = .returned (.tuple #[]) ∧ MkOut w l U (goOnM m p) w' := by
 have hc := h.prC hp
 have hn := Cpu.next_any (prOf m p).core w
 have HE : Hid (∀ w1, Below w.heap.size w w1 → MkOut w l U (goOnM m p) (put9 (w1.setCell ⟨l.bq p, 3, none⟩ (.int .i64 0)) (l.bq p) (prOf m p).core.next)) := hd (fun w1 hb => by
  refine MkOut.ahead hb ((h.below hb).putProc hs hp (f := fun x => { x with st := 0, core := x.core.next }) (fun _ => rfl) (fun _ => rfl) (fun _ => rfl) (fun _ => rfl) ((mod_set _ _ _ _).trans (put9_mod _ _ _) (fun k hk => .inl hk)) ?_)
  exact put9_at (putS_at ((h.below hb).procAt hp) 0) _)
 have HB : Hid (∀ w1, Below w.heap.size w w1 → PrC w1 l p (prOf m p)) := hd (fun w1 hb => (h.below hb).prC hp)
 obtain ⟨c0, c1, c2, c3, c4, c5, c6, c7, c8, c9, c10, c11, c12, c13, c14, fr⟩ := hc
 clear h hs hp
 generalize (prOf m p).core.next = D at *
 generalize prOf m p = x at *
 unfold Cpu.coreV Cpu.coreA at hn
 go_enter Tryz.func138, Tryz.ntmps138
 go_wp2_with (go_at_call 182; refine hn.mono ?_; rintro e w1 ⟨rfl, b1⟩; clear hn c0 c1 c2 c3 c4 c5 c6 c7 c8 c9 c10 c11 c12 c13 c14 fr; obtain ⟨c0, c1, c2, c3, c4, c5, c6, c7, c8, c9, c10, c11, c12, c13, c14, fr⟩ := HB.out w1 b1)
 unfold put9 at HE
 go_end0
 exact ⟨rfl, HE.out w1 b1⟩
set_option maxRecDepth 100000 in
set_option maxHeartbeats 2000000 in
theorem told_m (h : Mk w l U m) (hs : Shp l.c m) (hp : p < l.c.procs.length) (v : Int) : Calls Tryz.prog 157 #[.pointer (some ⟨l.bq p, 0, none⟩), .int .i64 v] w fun e w' => e = .returned (.tuple #[]) ∧ MkOut w l U (toldM l.c m p v) w' := by
 have hc := h.prC hp
 have hn := Cpu.told_any (prOf m p).core (prM l p).a (cd l.c p) (prM l p).c v w.drew (prg_draw (h.prg hp))
 have HE : Hid (∀ w1, Below w.heap.size w w1 → MkOut w l U (toldM l.c m p v) (put9 (w1.setCell ⟨l.bq p, 3, none⟩ (.int .i64 0)) (l.bq p) (Cpu.toldL (prOf m p).core (cd l.c p) v))) := hd (fun w1 hb => by
  refine MkOut.ahead hb ((h.below hb).putProc hs hp (f := fun x => { x with st := 0, core := Cpu.toldL x.core (cd l.c p) v }) (fun _ => rfl) (fun _ => rfl) (fun _ => rfl) (fun _ => rfl) ((mod_set _ _ _ _).trans (put9_mod _ _ _) (fun k hk => .inl hk)) ?_)
  exact put9_at (putS_at ((h.below hb).procAt hp) 0) _)
 have HB : Hid (∀ w1, Below w.heap.size w w1 → PrC w1 l p (prOf m p)) := hd (fun w1 hb => (h.below hb).prC hp)
 obtain ⟨c0, c1, c2, c3, c4, c5, c6, c7, c8, c9, c10, c11, c12, c13, c14, fr⟩ := hc
 clear h hs hp
 generalize Cpu.toldL (prOf m p).core (cd l.c p) v = D at *
 generalize prOf m p = x at *
 unfold Cpu.coreV Cpu.coreA at hn
 go_enter Tryz.func157, Tryz.ntmps157
 go_region_law (first | (go_simp; with_reducible refine hn.mono ?_; rintro e w1 ⟨rfl, b1⟩; clear hn c0 c1 c2 c3 c4 c5 c6 c7 c8 c9 c10 c11 c12 c13 c14 fr; obtain ⟨c0, c1, c2, c3, c4, c5, c6, c7, c8, c9, c10, c11, c12, c13, c14, fr⟩ := HB.out w1 (bel_dr b1)))
 unfold put9 at HE
 all_goals go_end0
 all_goals exact ⟨rfl, HE.out w1 (bel_dr b1)⟩
set_option maxRecDepth 100000 in
theorem rouse_any (h : Mk w l U m) (hs : Shp l.c m) (hp : p < l.c.procs.length) : Calls Tryz.prog 139 #[.pointer (some ⟨l.bq p, 0, none⟩)] w fun e w' => e = .returned (.tuple #[]) ∧ MkOut w l U (rouseM m p) w' := by
 have hp' : p < m.pr.length := by rw [hs.nq]; exact hp
 obtain ⟨c0, c1, c2, c3, c4, c5, c6, c7, c8, c9, c10, c11, c12, c13, c14, fr⟩ := h.prC hp
 by_cases e : (prOf m p).st = 1
 ·have HE : Hid (MkOut w l U (rouseM m p) (w.setCell ⟨l.bq p, 3, none⟩ (.int .i64 0))) := hd (h.putProc hs hp (f := fun x => { x with st := if x.st = 1 then 0 else x.st }) (fun _ => rfl) (fun _ => rfl) (fun _ => rfl) (fun _ => rfl) (mod_set _ _ _ _) (by rw [putS_at (h.procAt hp) 0, if_pos e]))
  rw [e] at c3
  clear h hs hp hp' e
  go_enter Tryz.func139, Tryz.ntmps139
  go_wp2
  go_end0
  exact ⟨rfl, HE.out⟩
 ·have HE : Hid (MkOut w l U (rouseM m p) w) := hd (by
   have : rouseM m p = m := modP_id hp' (by rw [if_neg e])
   rw [this]
   exact h.out (Below.refl _ _))
  have e1 : ((prOf m p).st == 1) = false := by simpa using e
  clear h hs hp hp' e
  go_enter Tryz.func139, Tryz.ntmps139
  go_wp2
  go_end0
  exact ⟨rfl, HE.out⟩
end
end Go.Proofs.YthhcecllejddeaaGreatDoor

namespace Go.Proofs.YthhcecllejddeaaGreatDoor
open Go.RowKit
section
variable {w w' : World} {l : Lay} {m : MS} {U : Nat → Prop} {p i : Nat}
theorem Mk.lanes (h : Mk w l U m) (hs : Shp l.c m) (hp : p < l.c.procs.length) : ∃ F, Lane.Ps w 214 263 215 (l.bo p) F (prOf m p).ss (prOf m p).lc ∧ ∀ w' (f : PrS → PrS), (∀ x, (f x).timer = x.timer) → (∀ x, (f x).wake = x.wake) → (∀ x, (f x).st = x.st) → (∀ x, (f x).core = x.core) → (∀ x, (f x).fired = x.fired) →
  Lane.PsOut w 214 263 215 (l.bo p) F (f (prOf m p)).ss (f (prOf m p)).lc w' → MkOut w l U (m.modP p f) w' := by
 have hp' : p < m.pr.length := by rw [hs.nq]; exact hp
 obtain ⟨F, h1, h2, h3⟩ := h.pst hp
 refine ⟨F, h1, fun w' f a b c d e ho => ?_⟩
 obtain ⟨k1, F', k2, k3⟩ := ho
 exact MkOut.of h2 k3 (h3 w' _ F' k1 (by rw [prOf_same hp']; exact k2) k3 (fun y hy => agr_pst a b c d e hp' hy))
set_option maxRecDepth 100000 in
theorem ended_any (s : Int) (w : World) : Calls Tryz.prog 148 #[.int .i64 s] w fun e w' => e = .returned (.bool (ended s)) ∧ w = w' := by
 unfold ended
 by_cases h1 : s = 5
 ·subst h1
  go_enter Tryz.func148, Tryz.ntmps148
  go_wp2
  go_ret
  exact ⟨rfl, rfl⟩
 ·by_cases h2 : s = 6
  ·subst h2
   go_enter Tryz.func148, Tryz.ntmps148
   go_wp2
   go_ret
   exact ⟨rfl, rfl⟩
  ·have e1 : (s == 5) = false := by simpa using h1
   have e2 : (s == 6) = false := by simpa using h2
   rw [show (decide (s = 5) || decide (s = 6)) = false by simp [h1, h2]]
   clear h1 h2
   go_enter Tryz.func148, Tryz.ntmps148
   go_wp2
   go_ret
   exact ⟨rfl, rfl⟩
end
end Go.Proofs.YthhcecllejddeaaGreatDoor

namespace Go.Proofs.YthhcecllejddeaaGreatDoor
open Go.RowKit
section
variable {w : World} {bt : Nat} {a : Option Addr} {cap : Nat} {mb : Value} {c : List Nat}
end
end Go.Proofs.YthhcecllejddeaaGreatDoor
