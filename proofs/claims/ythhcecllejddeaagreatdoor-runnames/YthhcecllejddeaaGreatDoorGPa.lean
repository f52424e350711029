/- The lanes of a process in memory. -/
import Derived.Test.YthhcecllejddeaaGreatDoorGLc
import Derived.Test.YthhcecllejddeaaGreatDoorGLm
import Derived.RangeFuncNested
import Derived.RangeFuncBound
import Derived.RangeFuncCalls
import Derived.RangeFuncLeaves
import Derived.Shelf.Abstract
import Derived.Shelf.RegionOpen
import Derived.OwnWalkIn
import Derived.TacticsInMore
import Derived.LoopNIn
import Derived.LoopIn
namespace Go.Proofs.YthhcecllejddeaaGreatDoor.Lane
open Go.RowKit
def pC (bs : List Nat) : List Value := bs.map (fun b => .pointer (some ⟨b, 0, none⟩))
theorem pC_len (l : List Nat) : (pC l).length = l.length * 1 := by simp [pC]
theorem pC_app (l m : List Nat) : pC (l ++ m) = pC l ++ pC m := by simp [pC]
theorem pC_at (l : List Nat) (i : Nat) (h : i < l.length) : (pC l)[i]? = some (.pointer (some ⟨l.getD i 0, 0, none⟩)) := by
 simp [pC, List.getD_eq_getElem?_getD, List.getElem?_eq_getElem h]
def pfp (b : Nat) (a : Option Addr) (n : Nat) (Fs : Nat → Nat → Prop) (k : Nat) : Prop := k = b ∨ blk a = some k ∨ ∃ i, i < n ∧ Fs i k
structure PsAt (w : World) (TP TL TE : TypeId) (b : Nat) (ss : List LS) (cur : Nat) (a : Option Addr) (cap : Nat) (bs : List Nat) (Fs : Nat → Nat → Prop) : Prop where
 obj : w.heap[b]? = some (.cells #[.slice a ss.length cap, .int .i64 (cur : Int)] TP (0, 0))
 row : Row w TE 1 a ss.length cap (pC bs)
 lns : ∀ i, i < ss.length → Ln w TL (bs.getD i 0) (Fs i) (lnOf ss i)
 ap : ∀ i j, i < ss.length → j < ss.length → i ≠ j → ∀ k, Fs i k → ¬ Fs j k
 fa : ∀ k, blk a = some k → k ≠ b ∧ ∀ i, i < ss.length → ¬ Fs i k
 fb : ∀ i, i < ss.length → ¬ Fs i b
section
variable {w w' w0 : World} {TP TL TE : TypeId} {b : Nat} {ss ss' : List LS} {cur : Nat} {a : Option Addr} {cap : Nat} {bs : List Nat} {Fs : Nat → Nat → Prop}
theorem PsAt.blen (h : PsAt w TP TL TE b ss cur a cap bs Fs) : bs.length = ss.length := by
 have := h.row.len
 rw [pC_len] at this
 omega
theorem PsAt.blt (h : PsAt w TP TL TE b ss cur a cap bs Fs) : b < w.heap.size := (Array.getElem?_eq_some_iff.1 h.obj).1
theorem PsAt.lt (h : PsAt w TP TL TE b ss cur a cap bs Fs) : ∀ k, pfp b a ss.length Fs k → k < w.heap.size := fun k hk => by
 rcases hk with rfl | hk | ⟨i, hi, hk⟩
 ·exact h.blt
 ·exact h.row.lt k hk
 ·exact (h.lns i hi).lt k hk
theorem PsAt.mod {S : Nat → Prop} (h : PsAt w TP TL TE b ss cur a cap bs Fs) (hm : Mod S w w') (hn : ∀ k, pfp b a ss.length Fs k → ¬ S k) : PsAt w' TP TL TE b ss cur a cap bs Fs :=
 ⟨by rw [hm.block b h.blt (hn b (.inl rfl))]; exact h.obj, h.row.mod hm (fun k hk => hn k (.inr (.inl hk))), fun i hi => (h.lns i hi).mod hm (fun k hk => hn k (.inr (.inr ⟨i, hi, hk⟩))), h.ap, h.fa, h.fb⟩
theorem PsAt.below (h : PsAt w TP TL TE b ss cur a cap bs Fs) (hb : Below w.heap.size w w') : PsAt w' TP TL TE b ss cur a cap bs Fs := h.mod (Mod.of_below (fun _ => False) hb) (fun _ _ h => h)
theorem PsAt.cells (h : PsAt w TP TL TE b ss cur a cap bs Fs) : w.cell? ⟨b, 0, none⟩ = some (.slice a ss.length cap) ∧ w.cell? ⟨b, 1, none⟩ = some (.int .i64 (cur : Int)) := by
 refine ⟨?_, ?_⟩ <;> (rw [cell_of_row _ _ _ _ _ _ h.obj]; rfl)
theorem PsAt.free (h : PsAt w TP TL TE b ss cur a cap bs Fs) (i : Nat) : w.frozen? ⟨b, i, none⟩ = false := by simp [World.frozen?, h.obj]
theorem PsAt.ptr (h : PsAt w TP TL TE b ss cur a cap bs Fs) (i : Nat) (hi : i < ss.length) : ∃ g, a = some ⟨g, 0, none⟩ ∧ w.cell? ⟨g, i, none⟩ = some (.pointer (some ⟨bs.getD i 0, 0, none⟩)) := by
 obtain ⟨g, e, hc⟩ := h.row.cell i (by omega)
 exact ⟨g, e, by rw [hc, pC_at bs i (by rw [h.blen]; exact hi)]⟩
structure PsTo (w : World) (TP TL TE : TypeId) (b : Nat) (a : Option Addr) (cap : Nat) (bs : List Nat) (Fs : Nat → Nat → Prop) (ss' : List LS) (cur' : Nat) (w' : World) (Fs' : Nat → Nat → Prop) : Prop where
 at' : PsAt w' TP TL TE b ss' cur' a cap bs Fs'
 mod : Mod (pfp b a ss'.length Fs) w w'
 new : ∀ k, pfp b a ss'.length Fs' k → pfp b a ss'.length Fs k ∨ w.heap.size ≤ k
theorem PsAt.to (h : PsAt w TP TL TE b ss cur a cap bs Fs) : PsTo w TP TL TE b a cap bs Fs ss cur w Fs := ⟨h, Mod.refl _ _, fun _ h => .inl h⟩
theorem PsTo.laneF {w'' : World} {Fs' : Nat → Nat → Prop} (h : PsTo w TP TL TE b a cap bs Fs ss cur w' Fs') {i : Nat} (hi : i < ss.length) {s' : LS} {F' : Nat → Prop} (hm : Mod (Fs' i) w' w'') (hL : Ln w'' TL (bs.getD i 0) F' s') (hF' : ∀ k, F' k → Fs' i k ∨ w'.heap.size ≤ k) :
  PsTo w TP TL TE b a cap bs Fs (ss.set i s') cur w'' (fun j k => if j = i then F' k else Fs' j k) := by
 have hlt := h.at'.lt
 refine ⟨?_, ?_, ?_⟩
 ·have hbl := h.at'.blt
  refine ⟨?_, ?_, ?_, ?_, ?_, ?_⟩
  ·rw [List.length_set, hm.block b hbl (h.at'.fb i hi)]
   exact h.at'.obj
  ·rw [List.length_set]
   exact h.at'.row.mod hm (fun k hk => (h.at'.fa k hk).2 i hi)
  ·intro j hj
   rw [List.length_set] at hj
   rw [lnOf_set _ _ _ _ hi]
   by_cases e : j = i
   ·subst e
    simp only [if_true]
    exact hL
   ·simp only [if_neg e]
    exact (h.at'.lns j hj).mod hm (fun k hk => h.at'.ap j i hj hi e k hk)
  ·intro j l hj hl hjl k hk hk2
   rw [List.length_set] at hj hl
   by_cases e : j = i
   ·subst e
    rw [if_pos rfl] at hk
    rw [if_neg (fun e => hjl e.symm)] at hk2
    rcases hF' k hk with h1 | h1
    ·exact h.at'.ap j l hj hl hjl k h1 hk2
    ·have := (h.at'.lns l hl).lt k hk2; omega
   ·rw [if_neg e] at hk
    by_cases e2 : l = i
    ·subst e2
     rw [if_pos rfl] at hk2
     rcases hF' k hk2 with h1 | h1
     ·exact h.at'.ap j l hj hl hjl k hk h1
     ·have := (h.at'.lns j hj).lt k hk; omega
    ·rw [if_neg e2] at hk2
     exact h.at'.ap j l hj hl hjl k hk hk2
  ·intro k hk
   refine ⟨(h.at'.fa k hk).1, fun j hj hk2 => ?_⟩
   rw [List.length_set] at hj
   by_cases e : j = i
   ·rw [if_pos e] at hk2
    rcases hF' k hk2 with h1 | h1
    ·exact (h.at'.fa k hk).2 i hi h1
    ·have := h.at'.row.lt k hk; omega
   ·rw [if_neg e] at hk2
    exact (h.at'.fa k hk).2 j hj hk2
  ·intro j hj hk2
   rw [List.length_set] at hj
   by_cases e : j = i
   ·rw [if_pos e] at hk2
    rcases hF' b hk2 with h1 | h1
    ·exact h.at'.fb i hi h1
    ·omega
   ·rw [if_neg e] at hk2
    exact h.at'.fb j hj hk2
 ·rw [List.length_set]
  exact h.mod.trans hm (fun k hk => h.new k (.inr (.inr ⟨i, hi, hk⟩)))
 ·rw [List.length_set]
  intro k hk
  rcases hk with hk | hk | ⟨j, hj, hk⟩
  ·exact h.new k (.inl hk)
  ·exact h.new k (.inr (.inl hk))
  ·by_cases e : j = i
   ·rw [if_pos e] at hk
    rcases hF' k hk with h1 | h1
    ·exact h.new k (.inr (.inr ⟨i, hi, h1⟩))
    ·exact .inr (Nat.le_trans h.mod.size h1)
   ·rw [if_neg e] at hk
    exact h.new k (.inr (.inr ⟨j, hj, hk⟩))
theorem PsTo.lane {w'' : World} {Fs' : Nat → Nat → Prop} (h : PsTo w TP TL TE b a cap bs Fs ss cur w' Fs') {i : Nat} (hi : i < ss.length) {s' : LS} (ho : LnOut w' TL (bs.getD i 0) (Fs' i) s' w'') :
  ∃ Fs'', PsTo w TP TL TE b a cap bs Fs (ss.set i s') cur w'' Fs'' := by
 obtain ⟨hm, F', hL, hF'⟩ := ho
 exact ⟨_, h.laneF hi hm hL hF'⟩
theorem PsTo.modify {S : Nat → Prop} {w'' : World} {Fs' : Nat → Nat → Prop} (h : PsTo w TP TL TE b a cap bs Fs ss cur w' Fs') (hm : Mod S w' w'') (hn : ∀ k, pfp b a ss.length Fs' k → ¬ S k) (hw : ∀ k, S k → w.heap.size ≤ k) : PsTo w TP TL TE b a cap bs Fs ss cur w'' Fs' :=
 ⟨h.at'.mod hm hn, h.mod.trans hm (fun k hk => .inr (hw k hk)), h.new⟩
def Ps (w : World) (TP TL TE : TypeId) (b : Nat) (F : Nat → Prop) (ss : List LS) (cur : Nat) : Prop :=
 ∃ a cap bs Fs, PsAt w TP TL TE b ss cur a cap bs Fs ∧ (∀ k, pfp b a ss.length Fs k → F k) ∧ ∀ k, F k → k < w.heap.size
theorem Ps.mod {F S : Nat → Prop} (h : Ps w TP TL TE b F ss cur) (hm : Mod S w w') (hn : ∀ k, F k → ¬ S k) : Ps w' TP TL TE b F ss cur := by
 obtain ⟨a, cap, bs, Fs, h1, h2, h3⟩ := h
 exact ⟨a, cap, bs, Fs, h1.mod hm fun k hk => hn k (h2 k hk), h2, fun k hk => Nat.lt_of_lt_of_le (h3 k hk) hm.size⟩
theorem Ps.lt {F : Nat → Prop} (h : Ps w TP TL TE b F ss cur) : ∀ k, F k → k < w.heap.size := by
 obtain ⟨a, cap, bs, Fs, h1, h2, h3⟩ := h
 exact h3
theorem PsAt.ps (h : PsAt w TP TL TE b ss cur a cap bs Fs) : Ps w TP TL TE b (pfp b a ss.length Fs) ss cur := ⟨a, cap, bs, Fs, h, fun _ h => h, h.lt⟩
def PsOut (w : World) (TP TL TE : TypeId) (b : Nat) (F : Nat → Prop) (ss' : List LS) (cur' : Nat) (w' : World) : Prop := Mod F w w' ∧ ∃ F', Ps w' TP TL TE b F' ss' cur' ∧ ∀ k, F' k → F k ∨ w.heap.size ≤ k
theorem PsTo.out {F : Nat → Prop} {Fs' : Nat → Nat → Prop} (h : PsTo w TP TL TE b a cap bs Fs ss cur w' Fs') (hF : ∀ k, pfp b a ss.length Fs k → F k) : PsOut w TP TL TE b F ss cur w' :=
 ⟨h.mod.mono (fun k _ hk => hF k hk), _, h.at'.ps, fun k hk => by
  rcases h.new k hk with h1 | h1
  ·exact .inl (hF k h1)
  ·exact .inr h1⟩
end
end Go.Proofs.YthhcecllejddeaaGreatDoor.Lane

namespace Go.Proofs.YthhcecllejddeaaGreatDoor.Lane
open Go.RowKit
section
variable {b : Nat} {F : Nat → Prop} {ss : List LS} {cur : Nat} {w : World}
def mayP (n room : Int) : Bool := decide ((1 ≤ n ∧ n ≤ 9) ∧ 1 ≤ room ∧ room ≤ 64)
theorem may_any (n room : Int) (w : World) : Calls Tryz.prog 130 #[.int .i64 n, .int .i64 room] w fun e w' => e = .returned (.bool (mayP n room)) ∧ w' = w := by
 by_cases h0 : 1 ≤ n
 ·by_cases h1 : n ≤ 9
  ·by_cases h2 : 1 ≤ room
   ·by_cases h3 : room ≤ 64
    ·rw [show mayP n room = true by simp [mayP]; omega]
     go_enter Tryz.func130, Tryz.ntmps130
     go_wp2
     go_ret
     exact ⟨rfl, rfl⟩
    ·rw [show mayP n room = false by simp [mayP]; omega]
     have h3' : decide (room ≤ 64) = false := by simp; omega
     have h3'' : 64 < room := by omega
     clear h3
     go_enter Tryz.func130, Tryz.ntmps130
     go_wp2
     go_ret
     exact ⟨rfl, rfl⟩
   ·rw [show mayP n room = false by simp [mayP]; omega]
    have h3' : decide (1 ≤ room) = false := by simp; omega
    have h3'' : room < 1 := by omega
    clear h2
    go_enter Tryz.func130, Tryz.ntmps130
    go_wp2
    go_ret
    exact ⟨rfl, rfl⟩
  ·rw [show mayP n room = false by simp [mayP]; omega]
   have h3' : decide (n ≤ 9) = false := by simp; omega
   have h3'' : 9 < n := by omega
   clear h1
   go_enter Tryz.func130, Tryz.ntmps130
   go_wp2
   go_ret
   exact ⟨rfl, rfl⟩
 ·rw [show mayP n room = false by simp [mayP]; omega]
  have h3' : decide (1 ≤ n) = false := by simp; omega
  have h3'' : n < 1 := by omega
  clear h0
  go_enter Tryz.func130, Tryz.ntmps130
  go_wp2
  go_ret
  exact ⟨rfl, rfl⟩
end
end Go.Proofs.YthhcecllejddeaaGreatDoor.Lane

namespace Go.Proofs.YthhcecllejddeaaGreatDoor.Lane
open Go.RowKit
section
variable {b : Nat} {F : Nat → Prop} {ss : List LS} {cur : Nat} {w : World}
end
end Go.Proofs.YthhcecllejddeaaGreatDoor.Lane

namespace Go.Proofs.YthhcecllejddeaaGreatDoor.Lane
open Go.RowKit Go.Shelf
attribute [local go_sem] Oper.semAt_some
theorem round_any {b : Nat} {w : World} : Calls Tryz.prog 232 #[.pointer (some ⟨b, 0, none⟩)] w fun e w' => e = .returned (.func (.func 258) #[] #[.pointer (some ⟨w.heap.size, 0, none⟩)]) ∧ w' = w.alloc (.cells #[.pointer (some ⟨b, 0, none⟩)] 145) := by
 go_enter Tryz.func232, Tryz.ntmps232
 go_wp2
 go_ret
 exact ⟨rfl, rfl⟩
end Go.Proofs.YthhcecllejddeaaGreatDoor.Lane

namespace Go.Proofs.YthhcecllejddeaaGreatDoor.Lane
open Go.RowKit Go.Shelf
structure TkBox (W : World) (G b : Nat) (v ln : Int) (wt : Int × Int) (lt : Bool) (e : Int) : Prop where
 o0 : W.heap[G]? = some (.cells #[.pointer (some ⟨b, 0, none⟩)] 145 (0, 0))
 o1 : W.heap[G + 1]? = some (.cells #[.int .i64 v] 2 (0, 0))
 o2 : W.heap[G + 1 + 1]? = some (.cells #[.int .i64 ln] 3 (0, 0))
 o3 : W.heap[G + 1 + 1 + 1]? = some (.cells #[.int .i64 wt.1, .int .i64 wt.2] 259 (0, 0))
 o4 : W.heap[G + 1 + 1 + 1 + 1]? = some (.cells #[.bool lt] 4 (0, 0))
 o5 : W.heap[G + 1 + 1 + 1 + 1 + 1]? = some (.cells #[.int .i64 e] 38 (0, 0))
section
variable {W W' : World} {G b : Nat} {v ln : Int} {wt : Int × Int} {lt : Bool} {e : Int}
end
def TPs (w : World) (ss : List LS) (cur b : Nat) (a : Option Addr) (cap : Nat) (bs : List Nat) (Fs : Nat → Nat → Prop) (B : Nat) (W : World) : Prop :=
 ∃ Fs', PsTo w 214 263 215 b a cap bs Fs ss cur W Fs' ∧ ∀ k, pfp b a ss.length Fs' k → k < w.heap.size ∨ (B ≤ k ∧ ∃ o, W.heap[k]? = some o ∧ o.isCells = true)
section
variable {w W : World} {ss : List LS} {cur b : Nat} {a : Option Addr} {cap : Nat} {bs : List Nat} {Fs : Nat → Nat → Prop} {B : Nat}
end
structure Took (w : World) (ss : List LS) (b : Nat) (a : Option Addr) (cap : Nat) (bs : List Nat) (Fs : Nat → Nat → Prop) (B : Nat) (i : Nat) (W : World) : Prop where
 box : TkBox W w.heap.size b (takeL (lnOf ss i)).1.1 (i : Int) (takeL (lnOf ss i)).1.2.1 (takeL (lnOf ss i)).1.2.2.1 (takeL (lnOf ss i)).1.2.2.2
 ps : TPs w (ss.set i (takeL (lnOf ss i)).2) ((i + 1) % ss.length) b a cap bs Fs B W
theorem mod_grown {W W' : World} {row : Option Nat} (h : W.grownBy W' row) : Mod (fun k => row = some k) W W' := ⟨h.os, h.tape, h.output, h.size, fun k hk hn => h.block k hk (fun e => hn e.symm)⟩
end Go.Proofs.YthhcecllejddeaaGreatDoor.Lane

namespace Go.Proofs.YthhcecllejddeaaGreatDoor.Lane
open Go.RowKit Go.Shelf
attribute [local go_sem] Oper.semAt_some
end Go.Proofs.YthhcecllejddeaaGreatDoor.Lane
