/- same; registers stay numbers of 64 bits. -/
import Derived.Test.YtfkdaimhdjaefaaDoorUP
namespace Go.Proofs.YtfkdaimhdjaefaaDoor
open Go.RowKit

set_option maxRecDepth 100000 in
set_option maxHeartbeats 2000000 in
theorem same_any (c : Core) (k u v : Int) (w : World) :
    Calls Tryd.prog 12 #[coreV c, wantV k u v, coreV c, wantV k u v] w fun e w' => e = .returned (.bool true) ∧ Below w.heap.size w w' := by
  have h8 := eq8'
  have hB : ∀ o1 o2 o3 o4 : Obj, Below w.heap.size w ((((w.alloc o1).alloc o2).alloc o3).alloc o4) := fun o1 o2 o3 o4 => (three_bel w o1 o2 o3).alloc (by simp; omega) _
  unfold coreV wantV coreA wantA
  go_enter Tryd.func12, Tryd.ntmps12
  go_wp2
  go_ret
  exact ⟨rfl, hB _ _ _ _⟩

theorem good_set {c : Core} (hc : GoodC c) (a : Nat) {v : Int} (hv : Alu.Fits v) : GoodC (c.set a v).next := fun j hj => by
  show Alu.Fits (if j = a then v else c.r j)
  split
  · exact hv
  · exact hc j hj

theorem step_good {c : Core} (hc : GoodC c) {l : List Ins} (hl : ∀ x ∈ l, Alu.Fits x.imm) {tick self : Int} (ht : Alu.Fits tick) (hs : Alu.Fits self) : GoodC (stepL c l tick self).1 := by
  unfold stepL
  split
  · next h1 =>
    split
    · next h2 =>
      obtain ⟨_, ha, hb, hd', _, _⟩ := ins_form h2
      have hi : Alu.Fits (l.getD c.pc.toNat default).imm := by
        have hlt : c.pc.toNat < l.length := by omega
        refine hl _ ?_
        rw [List.getD_eq_getElem?_getD, List.getElem?_eq_getElem hlt]
        exact List.getElem_mem hlt
      generalize l.getD c.pc.toNat default = x at *
      unfold stepI
      simp only
      split
      · unfold doL
        split
        · exact good_set hc _ hi
        split
        · exact good_set hc _ (hc _ hb)
        split
        · exact hc
        split
        · split <;> exact hc
        split
        · exact good_set hc _ ht
        split
        · exact good_set hc _ hs
        · exact good_set hc _ (reck_fits _ _ _ (hc _ hb))
      · split <;> exact hc
    · exact hc
  · exact hc
end Go.Proofs.YtfkdaimhdjaefaaDoor

/- What a round of CpuSteps holds. -/
namespace Go.Proofs.YtfkdaimhdjaefaaDoor
open Go.RowKit

/-- A round's head: the core; what else is kept. -/
structure Lp (w W : World) (c : Core) (X : World → Prop) : Prop where
  x6 : Box W 25 w.heap.size (coreA c)
  bel : Below w.heap.size w W
  ex : X W
structure Stable (w : World) (X : World → Prop) : Prop where
  b : ∀ W W', X W → Below W.heap.size W W' → X W'
  o : ∀ W W', X W → Oth w.heap.size W W' → X W'
theorem Lp.kept {w W W' : World} {c : Core} {X : World → Prop} (h : Lp w W c X) (hX : Stable w X) (hb : Below W.heap.size W W') : Lp w W' c X := ⟨h.x6.bel hb, h.bel.trans (hb.mono h.bel.size), hX.b _ _ h.ex hb⟩

/-- All boxes of a round. -/
structure All (w W : World) (g1 g2 g3 g4 : Nat) (c d t k : Core) (q u v : Int) (X : World → Prop) : Prop where
  lp : Lp w W c X
  x15 : Box W 25 g1 (coreA d)
  x16 : Box W 30 (g1 + 1) (wantA q u v)
  x17 : Box W 33 g2 (coreA d)
  x18 : Box W 34 (g2 + 1) (wantA q u v)
  x19 : Box W 33 g3 (coreA t)
  x20 : Box W 33 g4 (coreA k)
theorem All.kept {w W W' : World} {g1 g2 g3 g4 : Nat} {c d t k : Core} {q u v : Int} {X : World → Prop} (h : All w W g1 g2 g3 g4 c d t k q u v X) (hX : Stable w X) (hb : Below W.heap.size W W') : All w W' g1 g2 g3 g4 c d t k q u v X :=
  ⟨h.lp.kept hX hb, h.x15.bel hb, h.x16.bel hb, h.x17.bel hb, h.x18.bel hb, h.x19.bel hb, h.x20.bel hb⟩
/-- A world in which they stay. -/
structure AllW (w : World) (g1 g2 g3 g4 : Nat) (c d t k : Core) (q u v : Int) (X : World → Prop) where
  val : World
  kp : All w val g1 g2 g3 g4 c d t k q u v X
theorem Lp.put {w W : World} {c : Core} {X : World → Prop} (h : Lp w W c X) (hX : Stable w X) (d : Core) : Lp w (put9 W w.heap.size d) d X :=
  ⟨h.x6.nine d, (put9_oth _ _ d).below h.bel (Nat.le_refl _), hX.o _ _ h.ex (put9_oth _ _ d)⟩
end Go.Proofs.YtfkdaimhdjaefaaDoor
