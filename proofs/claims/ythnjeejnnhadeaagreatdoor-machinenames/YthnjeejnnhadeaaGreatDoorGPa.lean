/- The lanes of a process in memory. -/
import Derived.Test.YthnjeejnnhadeaaGreatDoorGLc
import Derived.Test.YthnjeejnnhadeaaGreatDoorGLm
import Derived.RangeFuncNested
import Derived.RangeFuncBound
import Derived.RangeFuncCalls
import Derived.RangeFuncLeaves
import Derived.Shelf.Abstract
import Derived.Shelf.RegionOpen
import Derived.OwnWalkIn
import Derived.TacticsInMore
import Derived.LoopNIn
import Derived.LoopIn
namespace Go.Proofs.YthnjeejnnhadeaaGreatDoor.Lane
open Go.RowKit
def pC (bs : List Nat) : List Value := bs.map (fun b => .pointer (some ⟨b, 0, none⟩))
theorem pC_len (l : List Nat) : (pC l).length = l.length * 1 := by simp [pC]
theorem pC_app (l m : List Nat) : pC (l ++ m) = pC l ++ pC m := by simp [pC]
theorem pC_at (l : List Nat) (i : Nat) (h : i < l.length) : (pC l)[i]? = some (.pointer (some ⟨l.getD i 0, 0, none⟩)) := by
 simp [pC, List.getD_eq_getElem?_getD, List.getElem?_eq_getElem h]
def pfp (b : Nat) (a : Option Addr) (n : Nat) (Fs : Nat → Nat → Prop) (k : Nat) : Prop := k = b ∨ blk a = some k ∨ ∃ i, i < n ∧ Fs i k
structure PsAt (w : World) (TP TL TE : TypeId) (b : Nat) (ss : List LS) (cur : Nat) (a : Option Addr) (cap : Nat) (bs : List Nat) (Fs : Nat → Nat → Prop) : Prop where
 obj : w.heap[b]? = some (.cells #[.slice a ss.length cap, .int .i64 (cur : Int)] TP (0, 0))
 row : Row w TE 1 a ss.length cap (pC bs)
 lns : ∀ i, i < ss.length → Ln w TL (bs.getD i 0) (Fs i) (lnOf ss i)
 ap : ∀ i j, i < ss.length → j < ss.length → i ≠ j → ∀ k, Fs i k → ¬ Fs j k
 fa : ∀ k, blk a = some k → k ≠ b ∧ ∀ i, i < ss.length → ¬ Fs i k
 fb : ∀ i, i < ss.length → ¬ Fs i b
section
variable {w w' w0 : World} {TP TL TE : TypeId} {b : Nat} {ss ss' : List LS} {cur : Nat} {a : Option Addr} {cap : Nat} {bs : List Nat} {Fs : Nat → Nat → Prop}
theorem PsAt.blen (h : PsAt w TP TL TE b ss cur a cap bs Fs) : bs.length = ss.length := by
 have := h.row.len
 rw [pC_len] at this
 omega
theorem PsAt.blt (h : PsAt w TP TL TE b ss cur a cap bs Fs) : b < w.heap.size := (Array.getElem?_eq_some_iff.1 h.obj).1
theorem PsAt.lt (h : PsAt w TP TL TE b ss cur a cap bs Fs) : ∀ k, pfp b a ss.length Fs k → k < w.heap.size := fun k hk => by
 rcases hk with rfl | hk | ⟨i, hi, hk⟩
 ·exact h.blt
 ·exact h.row.lt k hk
 ·exact (h.lns i hi).lt k hk
theorem PsAt.mod {S : Nat → Prop} (h : PsAt w TP TL TE b ss cur a cap bs Fs) (hm : Mod S w w') (hn : ∀ k, pfp b a ss.length Fs k → ¬ S k) : PsAt w' TP TL TE b ss cur a cap bs Fs :=
 ⟨by rw [hm.block b h.blt (hn b (.inl rfl))]; exact h.obj, h.row.mod hm (fun k hk => hn k (.inr (.inl hk))), fun i hi => (h.lns i hi).mod hm (fun k hk => hn k (.inr (.inr ⟨i, hi, hk⟩))), h.ap, h.fa, h.fb⟩
theorem PsAt.below (h : PsAt w TP TL TE b ss cur a cap bs Fs) (hb : Below w.heap.size w w') : PsAt w' TP TL TE b ss cur a cap bs Fs := h.mod (Mod.of_below (fun _ => False) hb) (fun _ _ h => h)
theorem PsAt.cells (h : PsAt w TP TL TE b ss cur a cap bs Fs) : w.cell? ⟨b, 0, none⟩ = some (.slice a ss.length cap) ∧ w.cell? ⟨b, 1, none⟩ = some (.int .i64 (cur : Int)) := by
 refine ⟨?_, ?_⟩ <;> (rw [cell_of_row _ _ _ _ _ _ h.obj]; rfl)
theorem PsAt.free (h : PsAt w TP TL TE b ss cur a cap bs Fs) (i : Nat) : w.frozen? ⟨b, i, none⟩ = false := by simp [World.frozen?, h.obj]
theorem PsAt.ptr (h : PsAt w TP TL TE b ss cur a cap bs Fs) (i : Nat) (hi : i < ss.length) : ∃ g, a = some ⟨g, 0, none⟩ ∧ w.cell? ⟨g, i, none⟩ = some (.pointer (some ⟨bs.getD i 0, 0, none⟩)) := by
 obtain ⟨g, e, hc⟩ := h.row.cell i (by omega)
 exact ⟨g, e, by rw [hc, pC_at bs i (by rw [h.blen]; exact hi)]⟩
structure PsTo (w : World) (TP TL TE : TypeId) (b : Nat) (a : Option Addr) (cap : Nat) (bs : List Nat) (Fs : Nat → Nat → Prop) (ss' : List LS) (cur' : Nat) (w' : World) (Fs' : Nat → Nat → Prop) : Prop where
 at' : PsAt w' TP TL TE b ss' cur' a cap bs Fs'
 mod : Mod (pfp b a ss'.length Fs) w w'
 new : ∀ k, pfp b a ss'.length Fs' k → pfp b a ss'.length Fs k ∨ w.heap.size ≤ k
theorem PsAt.to (h : PsAt w TP TL TE b ss cur a cap bs Fs) : PsTo w TP TL TE b a cap bs Fs ss cur w Fs := ⟨h, Mod.refl _ _, fun _ h => .inl h⟩
theorem PsTo.bel {w'' : World} {Fs' : Nat → Nat → Prop} (h : PsTo w TP TL TE b a cap bs Fs ss cur w' Fs') (hb : Below w'.heap.size w' w'') : PsTo w TP TL TE b a cap bs Fs ss cur w'' Fs' := ⟨h.at'.below hb, h.mod.after hb, h.new⟩
theorem PsTo.laneF {w'' : World} {Fs' : Nat → Nat → Prop} (h : PsTo w TP TL TE b a cap bs Fs ss cur w' Fs') {i : Nat} (hi : i < ss.length) {s' : LS} {F' : Nat → Prop} (hm : Mod (Fs' i) w' w'') (hL : Ln w'' TL (bs.getD i 0) F' s') (hF' : ∀ k, F' k → Fs' i k ∨ w'.heap.size ≤ k) :
  PsTo w TP TL TE b a cap bs Fs (ss.set i s') cur w'' (fun j k => if j = i then F' k else Fs' j k) := by
 have hlt := h.at'.lt
 refine ⟨?_, ?_, ?_⟩
 ·have hbl := h.at'.blt
  refine ⟨?_, ?_, ?_, ?_, ?_, ?_⟩
  ·rw [List.length_set, hm.block b hbl (h.at'.fb i hi)]
   exact h.at'.obj
  ·rw [List.length_set]
   exact h.at'.row.mod hm (fun k hk => (h.at'.fa k hk).2 i hi)
  ·intro j hj
   rw [List.length_set] at hj
   rw [lnOf_set _ _ _ _ hi]
   by_cases e : j = i
   ·subst e
    simp only [if_true]
    exact hL
   ·simp only [if_neg e]
    exact (h.at'.lns j hj).mod hm (fun k hk => h.at'.ap j i hj hi e k hk)
  ·intro j l hj hl hjl k hk hk2
   rw [List.length_set] at hj hl
   by_cases e : j = i
   ·subst e
    rw [if_pos rfl] at hk
    rw [if_neg (fun e => hjl e.symm)] at hk2
    rcases hF' k hk with h1 | h1
    ·exact h.at'.ap j l hj hl hjl k h1 hk2
    ·have := (h.at'.lns l hl).lt k hk2; omega
   ·rw [if_neg e] at hk
    by_cases e2 : l = i
    ·subst e2
     rw [if_pos rfl] at hk2
     rcases hF' k hk2 with h1 | h1
     ·exact h.at'.ap j l hj hl hjl k hk h1
     ·have := (h.at'.lns j hj).lt k hk; omega
    ·rw [if_neg e2] at hk2
     exact h.at'.ap j l hj hl hjl k hk hk2
  ·intro k hk
   refine ⟨(h.at'.fa k hk).1, fun j hj hk2 => ?_⟩
   rw [List.length_set] at hj
   by_cases e : j = i
   ·rw [if_pos e] at hk2
    rcases hF' k hk2 with h1 | h1
    ·exact (h.at'.fa k hk).2 i hi h1
    ·have := h.at'.row.lt k hk; omega
   ·rw [if_neg e] at hk2
    exact (h.at'.fa k hk).2 j hj hk2
  ·intro j hj hk2
   rw [List.length_set] at hj
   by_cases e : j = i
   ·rw [if_pos e] at hk2
    rcases hF' b hk2 with h1 | h1
    ·exact h.at'.fb i hi h1
    ·omega
   ·rw [if_neg e] at hk2
    exact h.at'.fb j hj hk2
 ·rw [List.length_set]
  exact h.mod.trans hm (fun k hk => h.new k (.inr (.inr ⟨i, hi, hk⟩)))
 ·rw [List.length_set]
  intro k hk
  rcases hk with hk | hk | ⟨j, hj, hk⟩
  ·exact h.new k (.inl hk)
  ·exact h.new k (.inr (.inl hk))
  ·by_cases e : j = i
   ·rw [if_pos e] at hk
    rcases hF' k hk with h1 | h1
    ·exact h.new k (.inr (.inr ⟨i, hi, h1⟩))
    ·exact .inr (Nat.le_trans h.mod.size h1)
   ·rw [if_neg e] at hk
    exact h.new k (.inr (.inr ⟨j, hj, hk⟩))
theorem PsTo.lane {w'' : World} {Fs' : Nat → Nat → Prop} (h : PsTo w TP TL TE b a cap bs Fs ss cur w' Fs') {i : Nat} (hi : i < ss.length) {s' : LS} (ho : LnOut w' TL (bs.getD i 0) (Fs' i) s' w'') :
  ∃ Fs'', PsTo w TP TL TE b a cap bs Fs (ss.set i s') cur w'' Fs'' := by
 obtain ⟨hm, F', hL, hF'⟩ := ho
 exact ⟨_, h.laneF hi hm hL hF'⟩
theorem PsTo.setCur {Fs' : Nat → Nat → Prop} (h : PsTo w TP TL TE b a cap bs Fs ss cur w' Fs') (c : Nat) : PsTo w TP TL TE b a cap bs Fs ss c (w'.setCell ⟨b, 1, none⟩ (.int .i64 (c : Int))) Fs' := by
 have hk' : ∀ k, k ≠ b → (w'.setCell ⟨b, 1, none⟩ (.int .i64 (c : Int))).heap[k]? = w'.heap[k]? := fun k hk => Below.heap_setCell _ _ _ _ hk
 refine ⟨⟨?_, h.at'.row.kept fun k hk => hk' k (h.at'.fa k hk).1, fun i hi => ?_, h.at'.ap, h.at'.fa, h.at'.fb⟩, h.mod.setCell (.inl (.inl rfl)) _, h.new⟩
 ·rw [heap_setCell_self h.at'.obj]
  rfl
 ·exact (h.at'.lns i hi).mod (S := fun k => k = b) ⟨rfl, rfl, rfl, by simp [World.setCell], fun k _ hk => hk' k hk⟩ (fun k hk e => h.at'.fb i hi (e ▸ hk))
theorem PsTo.other {Fs' : Nat → Nat → Prop} (h : PsTo w TP TL TE b a cap bs Fs ss cur w' Fs') {g : Nat} (hg : ¬ pfp b a ss.length Fs' g) (hw : w.heap.size ≤ g) (i : Nat) (u : Value) : PsTo w TP TL TE b a cap bs Fs ss cur (w'.setCell ⟨g, i, none⟩ u) Fs' :=
 ⟨h.at'.mod (S := fun k => k = g) ⟨rfl, rfl, rfl, by simp [World.setCell], fun k _ hk => Below.heap_setCell _ _ _ _ hk⟩ (fun k hk e => hg (e ▸ hk)), h.mod.setCell (.inr hw) u, h.new⟩
theorem PsTo.modify {S : Nat → Prop} {w'' : World} {Fs' : Nat → Nat → Prop} (h : PsTo w TP TL TE b a cap bs Fs ss cur w' Fs') (hm : Mod S w' w'') (hn : ∀ k, pfp b a ss.length Fs' k → ¬ S k) (hw : ∀ k, S k → w.heap.size ≤ k) : PsTo w TP TL TE b a cap bs Fs ss cur w'' Fs' :=
 ⟨h.at'.mod hm hn, h.mod.trans hm (fun k hk => .inr (hw k hk)), h.new⟩
def Ps (w : World) (TP TL TE : TypeId) (b : Nat) (F : Nat → Prop) (ss : List LS) (cur : Nat) : Prop :=
 ∃ a cap bs Fs, PsAt w TP TL TE b ss cur a cap bs Fs ∧ (∀ k, pfp b a ss.length Fs k → F k) ∧ ∀ k, F k → k < w.heap.size
theorem Ps.mod {F S : Nat → Prop} (h : Ps w TP TL TE b F ss cur) (hm : Mod S w w') (hn : ∀ k, F k → ¬ S k) : Ps w' TP TL TE b F ss cur := by
 obtain ⟨a, cap, bs, Fs, h1, h2, h3⟩ := h
 exact ⟨a, cap, bs, Fs, h1.mod hm fun k hk => hn k (h2 k hk), h2, fun k hk => Nat.lt_of_lt_of_le (h3 k hk) hm.size⟩
theorem Ps.below {F : Nat → Prop} (h : Ps w TP TL TE b F ss cur) (hb : Below w.heap.size w w') : Ps w' TP TL TE b F ss cur := h.mod (Mod.of_below (fun _ => False) hb) (fun _ _ h => h)
theorem Ps.lt {F : Nat → Prop} (h : Ps w TP TL TE b F ss cur) : ∀ k, F k → k < w.heap.size := by
 obtain ⟨a, cap, bs, Fs, h1, h2, h3⟩ := h
 exact h3
theorem PsAt.ps (h : PsAt w TP TL TE b ss cur a cap bs Fs) : Ps w TP TL TE b (pfp b a ss.length Fs) ss cur := ⟨a, cap, bs, Fs, h, fun _ h => h, h.lt⟩
def PsOut (w : World) (TP TL TE : TypeId) (b : Nat) (F : Nat → Prop) (ss' : List LS) (cur' : Nat) (w' : World) : Prop := Mod F w w' ∧ ∃ F', Ps w' TP TL TE b F' ss' cur' ∧ ∀ k, F' k → F k ∨ w.heap.size ≤ k
theorem PsOut.same {F : Nat → Prop} (h : Ps w TP TL TE b F ss cur) (hb : Below w.heap.size w w') : PsOut w TP TL TE b F ss cur w' := ⟨Mod.of_below _ hb, F, h.below hb, fun _ h => .inl h⟩
theorem PsTo.out {F : Nat → Prop} {Fs' : Nat → Nat → Prop} (h : PsTo w TP TL TE b a cap bs Fs ss cur w' Fs') (hF : ∀ k, pfp b a ss.length Fs k → F k) : PsOut w TP TL TE b F ss cur w' :=
 ⟨h.mod.mono (fun k _ hk => hF k hk), _, h.at'.ps, fun k hk => by
  rcases h.new k hk with h1 | h1
  ·exact .inl (hF k h1)
  ·exact .inr h1⟩
theorem PsOut.out {F F0 : Nat → Prop} (h0 : Below w0.heap.size w0 w) (h : PsOut w TP TL TE b F ss cur w') (hF : ∀ k, F k → F0 k) : PsOut w0 TP TL TE b F0 ss cur w' := by
 obtain ⟨h1, F', h2, h3⟩ := h
 refine ⟨(Mod.of_below F0 h0).trans (h1.mono (fun k _ hk => hF k hk)) (fun k hk => .inl hk), F', h2, fun k hk => ?_⟩
 rcases h3 k hk with h4 | h4
 ·exact .inl (hF k h4)
 ·exact .inr (Nat.le_trans h0.size h4)
end
end Go.Proofs.YthnjeejnnhadeaaGreatDoor.Lane

namespace Go.Proofs.YthnjeejnnhadeaaGreatDoor.Lane
open Go.RowKit
theorem isP_yes {n : Nat} {lane : Int} (h : isP n lane = true) : 0 ≤ lane ∧ lane < (n : Int) := by simpa [isP] using h
section
variable {b : Nat} {F : Nat → Prop} {ss : List LS} {cur : Nat} {w : World}
theorem has_any (h : Ps w 188 249 185 b F ss cur) (lane : Int) :
  Calls Tryz.prog 114 #[.pointer (some ⟨b, 0, none⟩), .int .i64 lane] w fun e w' => e = .returned (.bool (isP ss.length lane)) ∧ w' = w := by
 obtain ⟨a, cap, bs, Fs, h, -, -⟩ := h
 obtain ⟨k0, k1⟩ := h.cells
 obtain ⟨n, hn⟩ : ∃ n, Hid (ss.length = n) := ⟨_, rfl⟩
 rw [hn.out] at k0 ⊢
 clear h
 by_cases h0 : 0 ≤ lane
 ·by_cases h1 : lane < (n : Int)
  ·rw [show isP n lane = true by simp [isP]; omega]
   go_enter Tryz.func114, Tryz.ntmps114
   go_wp2
   go_ret
   exact ⟨rfl, rfl⟩
  ·rw [show isP n lane = false by simp [isP]; omega]
   have h1' : decide (lane < (n : Int)) = false := by simp; omega
   clear h1
   go_enter Tryz.func114, Tryz.ntmps114
   go_wp2
   go_ret
   exact ⟨rfl, rfl⟩
 ·rw [show isP n lane = false by simp [isP]; omega]
  have h0' : decide (0 ≤ lane) = false := by simp; omega
  have h0'' : lane < 0 := by omega
  clear h0
  go_enter Tryz.func114, Tryz.ntmps114
  go_wp2
  go_ret
  exact ⟨rfl, rfl⟩
def mayP (n room : Int) : Bool := decide ((1 ≤ n ∧ n ≤ 9) ∧ 1 ≤ room ∧ room ≤ 64)
theorem may_any (n room : Int) (w : World) : Calls Tryz.prog 187 #[.int .i64 n, .int .i64 room] w fun e w' => e = .returned (.bool (mayP n room)) ∧ w' = w := by
 by_cases h0 : 1 ≤ n
 ·by_cases h1 : n ≤ 9
  ·by_cases h2 : 1 ≤ room
   ·by_cases h3 : room ≤ 64
    ·rw [show mayP n room = true by simp [mayP]; omega]
     go_enter Tryz.func187, Tryz.ntmps187
     go_wp2
     go_ret
     exact ⟨rfl, rfl⟩
    ·rw [show mayP n room = false by simp [mayP]; omega]
     have h3' : decide (room ≤ 64) = false := by simp; omega
     have h3'' : 64 < room := by omega
     clear h3
     go_enter Tryz.func187, Tryz.ntmps187
     go_wp2
     go_ret
     exact ⟨rfl, rfl⟩
   ·rw [show mayP n room = false by simp [mayP]; omega]
    have h3' : decide (1 ≤ room) = false := by simp; omega
    have h3'' : room < 1 := by omega
    clear h2
    go_enter Tryz.func187, Tryz.ntmps187
    go_wp2
    go_ret
    exact ⟨rfl, rfl⟩
  ·rw [show mayP n room = false by simp [mayP]; omega]
   have h3' : decide (n ≤ 9) = false := by simp; omega
   have h3'' : 9 < n := by omega
   clear h1
   go_enter Tryz.func187, Tryz.ntmps187
   go_wp2
   go_ret
   exact ⟨rfl, rfl⟩
 ·rw [show mayP n room = false by simp [mayP]; omega]
  have h3' : decide (1 ≤ n) = false := by simp; omega
  have h3'' : n < 1 := by omega
  clear h0
  go_enter Tryz.func187, Tryz.ntmps187
  go_wp2
  go_ret
  exact ⟨rfl, rfl⟩
theorem behind_any {c : Value} {w : World} {a : Option Addr} {cap n i : Nat} (k0 : w.cell? ⟨b, 0, none⟩ = some (.slice a n cap)) (hi : i < n) (hn : n ≤ 9) (hc : c = .int .i64 (((i + 1) % n : Nat) : Int)) :
  Calls Tryz.prog 223 #[.pointer (some ⟨b, 0, none⟩), .int .i64 (i : Int)] w fun e w' => e = .returned c ∧ w' = w := by
 subst hc
 obtain ⟨m, hm⟩ : ∃ m, Hid ((i + 1) % n = m) := ⟨_, rfl⟩
 have ht : ((i : Int) + 1).tmod (n : Int) = (m : Int) := by rw [← hm.out]; rw [show (i : Int) + 1 = ((i + 1 : Nat) : Int) by omega]; exact (Int.ofNat_tmod _ _).symm
 have hn0 : (n : Int) ≠ 0 := by omega
 have hm0 : m < n := by rw [← hm.out]; exact Nat.mod_lt _ (by omega)
 rw [hm.out]
 clear hm
 go_enter Tryz.func223, Tryz.ntmps223
 go_wp2
 go_ret
 exact ⟨rfl, rfl⟩
end
end Go.Proofs.YthnjeejnnhadeaaGreatDoor.Lane

namespace Go.Proofs.YthnjeejnnhadeaaGreatDoor.Lane
open Go.RowKit
section
variable {b : Nat} {F : Nat → Prop} {ss : List LS} {cur : Nat} {w : World}
set_option maxRecDepth 100000 in
theorem pput_any (h : Ps w 188 249 185 b F ss cur) (hg : GoodP ss cur) (lane v : Int) :
  Calls Tryz.prog 113 #[.pointer (some ⟨b, 0, none⟩), .int .i64 lane, .int .i64 v] w fun e w' => e = .returned (.int .i64 (putP ss lane v).1) ∧ PsOut w 188 249 185 b F (putP ss lane v).2 cur w' := by
 have hh := has_any h lane
 cases hb : isP ss.length lane with
 | false =>
  rw [show putP ss lane v = (2, ss) by unfold putP; rw [hb]; rfl]
  rw [hb] at hh
  have HO := hd (PsOut.same h (below_same w))
  clear h hg
  simp only
  go_enter Tryz.func113, Tryz.ntmps113
  go_wp2_with (first | (go_at_call 114; refine hh.mono ?_; rintro e1 w1 ⟨rfl, rfl⟩))
  go_ret
  exact ⟨rfl, HO.out⟩
 | true =>
  have hl := isP_yes hb
  obtain ⟨i, rfl⟩ : ∃ i : Nat, lane = (i : Int) := ⟨lane.toNat, by omega⟩
  have hi : i < ss.length := by omega
  rw [show putP ss (i : Int) v = ((putL (lnOf ss i) v).1, ss.set i (putL (lnOf ss i) v).2) by unfold putP; rw [hb, Int.toNat_natCast]; rfl]
  rw [hb] at hh
  obtain ⟨a, cap, bs, Fs, h, hF, -⟩ := h
  obtain ⟨k0, k1⟩ := h.cells
  obtain ⟨g, rfl, kp⟩ := h.ptr i hi
  have hp := put_any (h.lns i hi) (hg.at hi) v
  have HO := hd fun (w2 : World) (ho : LnOut w 249 (bs.getD i 0) (Fs i) (putL (lnOf ss i) v).2 w2) => (show PsOut w 188 249 185 b F (ss.set i (putL (lnOf ss i) v).2) cur w2 by
   obtain ⟨Fs2, h2⟩ := h.to.lane hi ho
   exact h2.out (by rw [List.length_set]; exact hF))
  obtain ⟨n, hn⟩ : ∃ n, Hid (ss.length = n) := ⟨_, rfl⟩
  have hi' : (i : Int) < (n : Int) := by rw [← hn.out]; omega
  rw [hn.out] at k0 hi
  obtain ⟨r, hr⟩ : ∃ r, Hid (putL (lnOf ss i) v = r) := ⟨_, rfl⟩
  obtain ⟨p, hpb⟩ : ∃ p, Hid (bs.getD i 0 = p) := ⟨_, rfl⟩
  rw [hr.out, hpb.out] at HO hp
  rw [hr.out]
  rw [hpb.out] at kp
  clear h hg hl hb
  simp only
  go_enter Tryz.func113, Tryz.ntmps113
  go_wp2_with (first | (go_at_call 114; refine hh.mono ?_; rintro e1 w1 ⟨rfl, rfl⟩) | (go_at_call 176; refine hp.mono ?_; rintro e2 w2 ⟨rfl, ho⟩))
  go_ret
  exact ⟨rfl, HO.out _ ho⟩
set_option maxRecDepth 100000 in
theorem pdrop_any (h : Ps w 188 249 185 b F ss cur) (hg : GoodP ss cur) (lane : Int) :
  Calls Tryz.prog 54 #[.pointer (some ⟨b, 0, none⟩), .int .i64 lane] w fun e w' => e = .returned (.tuple #[]) ∧ PsOut w 188 249 185 b F (dropP ss lane) cur w' := by
 have hh := has_any h lane
 cases hb : isP ss.length lane with
 | false =>
  rw [show dropP ss lane = ss by unfold dropP; rw [hb]; rfl]
  rw [hb] at hh
  have HO := hd (PsOut.same h (below_same w))
  clear h hg
  go_enter Tryz.func54, Tryz.ntmps54
  go_wp2_with (first | (go_at_call 114; refine hh.mono ?_; rintro e1 w1 ⟨rfl, rfl⟩))
  refine bodyPost_end (results_none rfl _ _ _) rfl ?_
  exact ⟨rfl, HO.out⟩
 | true =>
  have hl := isP_yes hb
  obtain ⟨i, rfl⟩ : ∃ i : Nat, lane = (i : Int) := ⟨lane.toNat, by omega⟩
  have hi : i < ss.length := by omega
  rw [show dropP ss (i : Int) = ss.set i (dropL (lnOf ss i)) by unfold dropP; rw [hb, Int.toNat_natCast]; rfl]
  rw [hb] at hh
  obtain ⟨a, cap, bs, Fs, h, hF, -⟩ := h
  obtain ⟨k0, k1⟩ := h.cells
  obtain ⟨g, rfl, kp⟩ := h.ptr i hi
  have hp := drop_any (h.lns i hi) (hg.at hi)
  have HO := hd fun (w2 : World) (ho : LnOut w 249 (bs.getD i 0) (Fs i) (dropL (lnOf ss i)) w2) => (show PsOut w 188 249 185 b F (ss.set i (dropL (lnOf ss i))) cur w2 by
   obtain ⟨Fs2, h2⟩ := h.to.lane hi ho
   exact h2.out (by rw [List.length_set]; exact hF))
  obtain ⟨n, hn⟩ : ∃ n, Hid (ss.length = n) := ⟨_, rfl⟩
  have hi' : (i : Int) < (n : Int) := by rw [← hn.out]; omega
  rw [hn.out] at k0 hi
  obtain ⟨p, hpb⟩ : ∃ p, Hid (bs.getD i 0 = p) := ⟨_, rfl⟩
  rw [hpb.out] at HO hp kp
  clear h hg hl hb
  go_enter Tryz.func54, Tryz.ntmps54
  go_wp2_with (first | (go_at_call 114; refine hh.mono ?_; rintro e1 w1 ⟨rfl, rfl⟩) | (go_at_call 115; refine hp.mono ?_; rintro e2 w2 ⟨rfl, ho⟩))
  refine bodyPost_end (results_none rfl _ _ _) rfl ?_
  exact ⟨rfl, HO.out _ ho⟩
end
end Go.Proofs.YthnjeejnnhadeaaGreatDoor.Lane

namespace Go.Proofs.YthnjeejnnhadeaaGreatDoor.Lane
open Go.RowKit Go.Shelf
attribute [local go_sem] Oper.semAt_some
abbrev LNo (n : Nat) := { i : Nat // i < n }
def bAt (bs : List Nat) (i : Nat) : Nat := bs.getD i 0
def enc (bs : List Nat) {n : Nat} (x : LNo n) : Array Value := #[.int .i64 (x.1 : Int), .pointer (some ⟨bAt bs x.1, 0, none⟩)]
def ups (n cur : Nat) (hn : 0 < n) (k : Nat) : List (LNo n) := (List.range k).map (fun j => ⟨rnd n cur j, rnd_lt hn⟩)
theorem ups_succ (n cur : Nat) (hn : 0 < n) (k : Nat) : ups n cur hn (k + 1) = ups n cur hn k ++ [⟨rnd n cur k, rnd_lt hn⟩] := by simp [ups, List.range_succ]
theorem ups_len (n cur : Nat) (hn : 0 < n) (k : Nat) : (ups n cur hn k).length = k := by simp [ups]
theorem rnd_next {n cur k : Nat} : (rnd n cur k + 1) % n = rnd n cur (k + 1) := by
 unfold rnd
 rw [Nat.mod_add_mod]
 rfl
theorem round_any {b : Nat} {w : World} : Calls Tryz.prog 220 #[.pointer (some ⟨b, 0, none⟩)] w fun e w' => e = .returned (.func (.func 255) #[] #[.pointer (some ⟨w.heap.size, 0, none⟩)]) ∧ w' = w.alloc (.cells #[.pointer (some ⟨b, 0, none⟩)] 113) := by
 go_enter Tryz.func220, Tryz.ntmps220
 go_wp2
 go_ret
 exact ⟨rfl, rfl⟩
set_option maxRecDepth 100000 in
set_option maxHeartbeats 2000000 in
theorem round1_stops {n cur n₀ Bp b g cap : Nat} {bs : List Nat} {w : World} (m : Nat) (hm : 1 ≤ m) (hn : 0 < n) (hn9 : n ≤ 9) (hcu : cur < n)
  (hc : w.cell? ⟨Bp, 0, none⟩ = some (.pointer (some ⟨b, 0, none⟩))) (hBp : Bp < n₀) (k0 : w.cell? ⟨b, 0, none⟩ = some (.slice (some ⟨g, 0, none⟩) n cap)) (k1 : w.cell? ⟨b, 1, none⟩ = some (.int .i64 (cur : Int))) (hb : b < n₀)
  (hp : ∀ i, i < n → w.cell? ⟨g, i, none⟩ = some (.pointer (some ⟨bAt bs i, 0, none⟩))) (hg : g < n₀) (hle : n₀ ≤ w.heap.size) :
  SeqStopsK Fence.wide m Tryz.prog 255 #[.pointer (some ⟨Bp, 0, none⟩)] (enc bs (n := n)) (Below n₀) (fun xs => xs = ups n cur hn n) (fun pre => ∃ k, k < n ∧ pre = ups n cur hn (k + 1)) n w := fun l J Jx W hW hJ hJx hY h0 => by
 have HC : Hid (∀ W' : World, Below n₀ W W' → W'.cell? ⟨Bp, 0, none⟩ = some (.pointer (some ⟨b, 0, none⟩)) ∧ W'.cell? ⟨b, 0, none⟩ = some (.slice (some ⟨g, 0, none⟩) n cap) ∧ W'.cell? ⟨b, 1, none⟩ = some (.int .i64 (cur : Int)) ∧ ∀ i, i < n → W'.cell? ⟨g, i, none⟩ = some (.pointer (some ⟨bAt bs i, 0, none⟩))) := hd (fun W' hb' => by
  have hall : ∀ p : Addr, p.block < n₀ → W'.cell? p = w.cell? p := fun p hp' => (hb'.cell hp').trans ((hW.mono hle).cell hp')
  refine ⟨(hall _ hBp).trans hc, (hall _ hb).trans k0, (hall _ hb).trans k1, fun i hi => (hall _ hg).trans (hp i hi)⟩)
 clear hc k0 k1 hp hJ hJx hW
 obtain ⟨c0, c1, c2, -⟩ := HC.out W (Below.refl _ _)
 refine callsIn_of_wp Tryz.func255 rfl trivial ?_ rfl
 simp only [Tryz.ntmps255, List.size_toArray, List.length_cons, List.length_nil, Nat.reduceAdd, Nat.reduceSub, Array.replicate_succ, Array.replicate_zero, List.push_toArray, List.append_toArray, List.nil_append, List.cons_append]
 gi_wp2
 gi_loopw [3, 13] (fun v3 v13 wr => ∃ (k i : Nat), v3 = .int .i64 (i : Int) ∧ v13 = .int .i64 (k : Int) ∧ k ≤ n ∧ Hid (rnd n cur k = i ∧ Below n₀ W wr ∧ J (ups n cur hn k) wr))
  (fun v3 v13 _ => n - (intOf v13).toNat)
 case atStart => exact ⟨0, cur, rfl, rfl, Nat.zero_le _, hd ⟨by unfold rnd; rw [Nat.add_zero, Nat.mod_eq_of_lt hcu], Below.refl _ _, h0⟩⟩
 case round =>
  obtain ⟨k, i, rfl, rfl, hkn, HH⟩ := hrel
  obtain ⟨d0, d1, d2, d3⟩ := HC.out wr HH.out.2.1
  by_cases hlt : k < n
  ·have hlt' : (k : Int) < (n : Int) := by omega
   have hi : i < n := by rw [← HH.out.1]; exact rnd_lt hn
   have hi' : (i : Int) < (n : Int) := by omega
   have dp := d3 i hi
   have HX : Hid (ups n cur hn (k + 1) = ups n cur hn k ++ [⟨i, hi⟩]) := hd (by rw [ups_succ]; congr 2; simp [HH.out.1])
   obtain ⟨fn, tmps, assign, body, hy, hR⟩ := hY (ups n cur hn k) ⟨i, hi⟩ wr HH.out.2.2 (by rw [ups_len]; exact hlt)
   simp only [enc] at hy
   obtain ⟨p, hpb⟩ : ∃ p, Hid (bAt bs i = p) := ⟨_, rfl⟩
   rw [hpb.out] at hy dp
   clear d3
   gi_wp2
   refine hR.mono ?_
   rintro e W3 (⟨rfl, hJ3, hk3⟩ | ⟨rfl, hJx3⟩)
   ·obtain ⟨q0, q1, q2, q3⟩ := HC.out W3 (HH.out.2.1.trans hk3)
    obtain ⟨i2, hi2⟩ : ∃ i2, Hid (rnd n cur (k + 1) = i2) := ⟨_, rfl⟩
    have hbe := behind_any (b := b) (w := W3) (a := some ⟨g, 0, none⟩) (cap := cap) (n := n) (i := i) (c := .int .i64 (i2 : Int)) q1 hi hn9 (by rw [← hi2.out, ← rnd_next, HH.out.1])
    clear q3
    gi_wp2_with (refine ⟨trivial, ?_⟩; gi_at_call 223; refine (callsIn_wide.2 hbe).mono ?_; rintro e w' ⟨rfl, rfl⟩)
    go_roundw
    case rel => exact ⟨k + 1, i2, rfl, by go_num, by omega, hd ⟨hi2.out, HH.out.2.1.trans hk3, by rw [HX.out]; exact hJ3⟩⟩
    case measure => simp [intOf]; omega
   ·gi_wp2
    refine bodyPost_ret (results_none rfl _ _ _) rfl ?_
    exact ⟨⟨_, rfl⟩, .inr ⟨ups n cur hn (k + 1), ⟨k, hlt, rfl⟩, by rw [HX.out]; exact hJx3⟩⟩
  ·have hltd : decide ((k : Int) < (n : Int)) = false := by simp; omega
   have hle' : (n : Int) ≤ (k : Int) := by omega
   obtain rfl : k = n := by omega
   gi_wp2
   go_end0
   exact ⟨⟨_, rfl⟩, .inl ⟨_, rfl, HH.out.2.2⟩⟩
end Go.Proofs.YthnjeejnnhadeaaGreatDoor.Lane

namespace Go.Proofs.YthnjeejnnhadeaaGreatDoor.Lane
open Go.RowKit Go.Shelf
theorem keepsFrom_mod {S : Nat → Prop} {B : Nat} {W W' : World} (h : Mod S W W') (hs : ∀ k, S k → k < B) : KeepsFrom B W W' :=
 ⟨h.size, fun k o hB hk _ => (h.block k (Array.getElem?_eq_some_iff.1 hk).1 (fun h' => by have := hs k h'; omega)).trans hk⟩
theorem _root_.Go.Proofs.YthnjeejnnhadeaaGreatDoor.Row.isCells {w : World} {e : TypeId} {size n cap : Nat} {a : Option Addr} {xs : List Value} (h : Row w e size a n cap xs) : ∀ k, blk a = some k → ∃ o, w.heap[k]? = some o ∧ o.isCells = true := fun k hk => by
 obtain ⟨_, _, _, ⟨rfl, _⟩ | ⟨g, cur, rfl, hg, _⟩⟩ := h
 ·cases hk
 ·cases hk; exact ⟨_, hg, rfl⟩
theorem LnAt.isCells {w : World} {T : TypeId} {b : Nat} {s : LS} {a1 a2 : Option Addr} {c1 c2 : Nat} (h : LnAt w T b s a1 c1 a2 c2) : ∀ k, fp b a1 a2 k → ∃ o, w.heap[k]? = some o ∧ o.isCells = true := fun k hk => by
 rcases hk with rfl | hk | hk
 ·exact ⟨_, h.obj, rfl⟩
 ·exact h.vals.isCells k hk
 ·exact h.wts.isCells k hk
theorem LnOut.cells {w w' : World} {T : TypeId} {b : Nat} {F : Nat → Prop} {s : LS} (h : LnOut w T b F s w') : Mod F w w' ∧ ∃ F', Ln w' T b F' s ∧ (∀ k, F' k → F k ∨ w.heap.size ≤ k) ∧ ∀ k, F' k → ∃ o, w'.heap[k]? = some o ∧ o.isCells = true := by
 obtain ⟨h1, F', ⟨a1, c1, a2, c2, h2, h3, _⟩, h4⟩ := h
 exact ⟨h1, _, h2.ln, fun k hk => h4 k (h3 k hk), h2.isCells⟩
structure TkBox (W : World) (G b : Nat) (v ln : Int) (wt : Int × Int) (lt : Bool) (e : Int) : Prop where
 o0 : W.heap[G]? = some (.cells #[.pointer (some ⟨b, 0, none⟩)] 113 (0, 0))
 o1 : W.heap[G + 1]? = some (.cells #[.int .i64 v] 2 (0, 0))
 o2 : W.heap[G + 1 + 1]? = some (.cells #[.int .i64 ln] 3 (0, 0))
 o3 : W.heap[G + 1 + 1 + 1]? = some (.cells #[.int .i64 wt.1, .int .i64 wt.2] 155 (0, 0))
 o4 : W.heap[G + 1 + 1 + 1 + 1]? = some (.cells #[.bool lt] 4 (0, 0))
 o5 : W.heap[G + 1 + 1 + 1 + 1 + 1]? = some (.cells #[.int .i64 e] 30 (0, 0))
section
variable {W W' : World} {G b : Nat} {v ln : Int} {wt : Int × Int} {lt : Bool} {e : Int}
theorem TkBox.kept (h : TkBox W G b v ln wt lt e) (hk : ∀ k, G ≤ k → k ≤ G + 5 → W'.heap[k]? = W.heap[k]?) : TkBox W' G b v ln wt lt e :=
 ⟨by rw [hk _ (by omega) (by omega)]; exact h.o0, by rw [hk _ (by omega) (by omega)]; exact h.o1, by rw [hk _ (by omega) (by omega)]; exact h.o2, by rw [hk _ (by omega) (by omega)]; exact h.o3, by rw [hk _ (by omega) (by omega)]; exact h.o4, by rw [hk _ (by omega) (by omega)]; exact h.o5⟩
theorem TkBox.cells (h : TkBox W G b v ln wt lt e) : W.cell? ⟨G, 0, none⟩ = some (.pointer (some ⟨b, 0, none⟩)) ∧ W.cell? ⟨G + 1, 0, none⟩ = some (.int .i64 v) ∧ W.cell? ⟨G + 1 + 1, 0, none⟩ = some (.int .i64 ln) ∧ W.cell? ⟨G + 1 + 1 + 1, 0, none⟩ = some (.int .i64 wt.1) ∧ W.cell? ⟨G + 1 + 1 + 1, 1, none⟩ = some (.int .i64 wt.2) ∧ W.cell? ⟨G + 1 + 1 + 1 + 1, 0, none⟩ = some (.bool lt) ∧ W.cell? ⟨G + 1 + 1 + 1 + 1 + 1, 0, none⟩ = some (.int .i64 e) := by
 refine ⟨?_, ?_, ?_, ?_, ?_, ?_, ?_⟩
 ·rw [cell_of_row _ _ _ _ _ _ h.o0]; rfl
 ·rw [cell_of_row _ _ _ _ _ _ h.o1]; rfl
 ·rw [cell_of_row _ _ _ _ _ _ h.o2]; rfl
 ·rw [cell_of_row _ _ _ _ _ _ h.o3]; rfl
 ·rw [cell_of_row _ _ _ _ _ _ h.o3]; rfl
 ·rw [cell_of_row _ _ _ _ _ _ h.o4]; rfl
 ·rw [cell_of_row _ _ _ _ _ _ h.o5]; rfl
theorem TkBox.free (h : TkBox W G b v ln wt lt e) : W.frozen? ⟨G, 0, none⟩ = false ∧ W.frozen? ⟨G + 1, 0, none⟩ = false ∧ W.frozen? ⟨G + 1 + 1, 0, none⟩ = false ∧ W.frozen? ⟨G + 1 + 1 + 1, 0, none⟩ = false ∧ W.frozen? ⟨G + 1 + 1 + 1, 1, none⟩ = false ∧ W.frozen? ⟨G + 1 + 1 + 1 + 1, 0, none⟩ = false ∧ W.frozen? ⟨G + 1 + 1 + 1 + 1 + 1, 0, none⟩ = false := by
 refine ⟨?_, ?_, ?_, ?_, ?_, ?_, ?_⟩
 ·simp [World.frozen?, h.o0]
 ·simp [World.frozen?, h.o1]
 ·simp [World.frozen?, h.o2]
 ·simp [World.frozen?, h.o3]
 ·simp [World.frozen?, h.o3]
 ·simp [World.frozen?, h.o4]
 ·simp [World.frozen?, h.o5]
theorem at_set {w : World} {p : Addr} {u : Value} {k : Nat} {o : Option Obj} (h : w.heap[k]? = o) (hk : k ≠ p.block) : (w.setCell p u).heap[k]? = o := by rw [Below.heap_setCell _ _ _ _ hk]; exact h
theorem TkBox.put (h : TkBox W G b v ln wt lt e) (v' : Int) (wt' : Int × Int) (lt' : Bool) (e' : Int) :
  TkBox (((((W.setCell ⟨G + 1, 0, none⟩ (.int .i64 v')).setCell ⟨G + 1 + 1 + 1, 0, none⟩ (.int .i64 wt'.1)).setCell ⟨G + 1 + 1 + 1, 1, none⟩ (.int .i64 wt'.2)).setCell ⟨G + 1 + 1 + 1 + 1, 0, none⟩ (.bool lt')).setCell ⟨G + 1 + 1 + 1 + 1 + 1, 0, none⟩ (.int .i64 e')) G b v' ln wt' lt' e' := by
 refine ⟨?_, ?_, ?_, ?_, ?_, ?_⟩
 ·exact at_set (at_set (at_set (at_set (at_set h.o0 (by dsimp only; omega)) (by dsimp only; omega)) (by dsimp only; omega)) (by dsimp only; omega)) (by dsimp only; omega)
 ·exact at_set (at_set (at_set (at_set (heap_setCell_self h.o1 _) (by dsimp only; omega)) (by dsimp only; omega)) (by dsimp only; omega)) (by dsimp only; omega)
 ·exact at_set (at_set (at_set (at_set (at_set h.o2 (by dsimp only; omega)) (by dsimp only; omega)) (by dsimp only; omega)) (by dsimp only; omega)) (by dsimp only; omega)
 ·exact at_set (at_set (heap_setCell_self (heap_setCell_self (at_set h.o3 (by dsimp only; omega)) _) _) (by dsimp only; omega)) (by dsimp only; omega)
 ·exact at_set (heap_setCell_self (at_set (at_set (at_set h.o4 (by dsimp only; omega)) (by dsimp only; omega)) (by dsimp only; omega)) _) (by dsimp only; omega)
 ·exact heap_setCell_self (at_set (at_set (at_set (at_set h.o5 (by dsimp only; omega)) (by dsimp only; omega)) (by dsimp only; omega)) (by dsimp only; omega)) _
theorem TkBox.putLn (h : TkBox W G b v ln wt lt e) (ln' : Int) : TkBox (W.setCell ⟨G + 1 + 1, 0, none⟩ (.int .i64 ln')) G b v ln' wt lt e :=
 ⟨at_set h.o0 (by dsimp only; omega), at_set h.o1 (by dsimp only; omega), heap_setCell_self h.o2 _, at_set h.o3 (by dsimp only; omega), at_set h.o4 (by dsimp only; omega), at_set h.o5 (by dsimp only; omega)⟩
theorem TkBox.putE (h : TkBox W G b v ln wt lt e) (e' : Int) : TkBox (W.setCell ⟨G + 1 + 1 + 1 + 1 + 1, 0, none⟩ (.int .i64 e')) G b v ln wt lt e' :=
 ⟨at_set h.o0 (by dsimp only; omega), at_set h.o1 (by dsimp only; omega), at_set h.o2 (by dsimp only; omega), at_set h.o3 (by dsimp only; omega), at_set h.o4 (by dsimp only; omega), heap_setCell_self h.o5 _⟩
theorem TkBox.isCells (h : TkBox W G b v ln wt lt e) : ∀ k, G ≤ k → k ≤ G + 5 → ∃ o, W.heap[k]? = some o ∧ o.isCells = true := fun k h1 h2 => by
 rcases (show k = G ∨ k = G + 1 ∨ k = G + 1 + 1 ∨ k = G + 1 + 1 + 1 ∨ k = G + 1 + 1 + 1 + 1 ∨ k = G + 1 + 1 + 1 + 1 + 1 by omega) with rfl | rfl | rfl | rfl | rfl | rfl
 ·exact ⟨_, h.o0, rfl⟩
 ·exact ⟨_, h.o1, rfl⟩
 ·exact ⟨_, h.o2, rfl⟩
 ·exact ⟨_, h.o3, rfl⟩
 ·exact ⟨_, h.o4, rfl⟩
 ·exact ⟨_, h.o5, rfl⟩
end
theorem tk_new (w : World) (b : Nat) : TkBox ((((((w.alloc (.cells #[.pointer (some ⟨b, 0, none⟩)] 113)).alloc (.cells #[.int .i64 0] 2)).alloc (.cells #[.int .i64 0] 3)).alloc (.cells #[.int .i64 0, .int .i64 0] 155)).alloc (.cells #[.bool false] 4)).alloc (.cells #[.int .i64 0] 30)) w.heap.size b 0 0 (0, 0) false 0 := by
 have nw : ∀ (W : World) (o : Obj) (k : Nat), k = W.heap.size → (W.alloc o).heap[k]? = some o := fun W o k e => by subst e; exact heap_alloc_new W o
 have od : ∀ (W : World) (o : Obj) (k : Nat) (r : Option Obj), k < W.heap.size → W.heap[k]? = r → (W.alloc o).heap[k]? = r := fun W o k r hk h => (Below.heap_alloc W o k hk).trans h
 refine ⟨?_, ?_, ?_, ?_, ?_, ?_⟩
 ·refine od _ _ _ _ (by simp only [World.size_alloc]; omega) (od _ _ _ _ (by simp only [World.size_alloc]; omega) (od _ _ _ _ (by simp only [World.size_alloc]; omega) (od _ _ _ _ (by simp only [World.size_alloc]; omega) (od _ _ _ _ (by simp only [World.size_alloc]; omega) (nw _ _ _ rfl)))))
 ·refine od _ _ _ _ (by simp only [World.size_alloc]; omega) (od _ _ _ _ (by simp only [World.size_alloc]; omega) (od _ _ _ _ (by simp only [World.size_alloc]; omega) (od _ _ _ _ (by simp only [World.size_alloc]; omega) (nw _ _ _ (by simp)))))
 ·refine od _ _ _ _ (by simp only [World.size_alloc]; omega) (od _ _ _ _ (by simp only [World.size_alloc]; omega) (od _ _ _ _ (by simp only [World.size_alloc]; omega) (nw _ _ _ (by simp))))
 ·refine od _ _ _ _ (by simp only [World.size_alloc]; omega) (od _ _ _ _ (by simp only [World.size_alloc]; omega) (nw _ _ _ (by simp)))
 ·refine od _ _ _ _ (by simp only [World.size_alloc]; omega) (nw _ _ _ (by simp))
 ·exact nw _ _ _ (by simp)
theorem set_idle {w : World} {b i : Nat} {cs : Array Value} {t : TypeId} {fr : Nat × Nat} {u : Value} (h : w.heap[b]? = some (.cells cs t fr)) (hu : cs[i]? = some u) : w.setCell ⟨b, i, none⟩ u = w := by
 have hh : (w.setCell ⟨b, i, none⟩ u).heap = w.heap := by
  refine Array.ext_getElem? (fun k => ?_)
  by_cases e : k = b
  ·subst e
   rw [heap_setCell_self h, h]
   congr 2
   refine Array.ext_getElem? (fun j => ?_)
   rw [Array.getElem?_setIfInBounds]
   split
   ·rename_i e2
    subst e2
    rw [hu]
    split
    ·rfl
    ·rename_i hn
     rw [Array.getElem?_eq_none (by omega)] at hu
     cases hu
   ·rfl
  ·exact Below.heap_setCell _ _ _ _ e
 cases w
 simp only [World.setCell] at hh ⊢
 rw [hh]
theorem TkBox.idle {W : World} {G b : Nat} {v ln : Int} {wt : Int × Int} {lt : Bool} {e : Int} (h : TkBox W G b v ln wt lt e) : W.setCell ⟨G + 1, 0, none⟩ (.int .i64 v) = W ∧ W.setCell ⟨G + 1 + 1, 0, none⟩ (.int .i64 ln) = W ∧ W.setCell ⟨G + 1 + 1 + 1, 0, none⟩ (.int .i64 wt.1) = W ∧ W.setCell ⟨G + 1 + 1 + 1, 1, none⟩ (.int .i64 wt.2) = W ∧ W.setCell ⟨G + 1 + 1 + 1 + 1, 0, none⟩ (.bool lt) = W ∧ W.setCell ⟨G + 1 + 1 + 1 + 1 + 1, 0, none⟩ (.int .i64 e) = W :=
 ⟨set_idle h.o1 rfl, set_idle h.o2 rfl, set_idle h.o3 rfl, set_idle h.o3 rfl, set_idle h.o4 rfl, set_idle h.o5 rfl⟩
def TPs (w : World) (ss : List LS) (cur b : Nat) (a : Option Addr) (cap : Nat) (bs : List Nat) (Fs : Nat → Nat → Prop) (B : Nat) (W : World) : Prop :=
 ∃ Fs', PsTo w 188 249 185 b a cap bs Fs ss cur W Fs' ∧ ∀ k, pfp b a ss.length Fs' k → k < w.heap.size ∨ (B ≤ k ∧ ∃ o, W.heap[k]? = some o ∧ o.isCells = true)
section
variable {w W : World} {ss : List LS} {cur b : Nat} {a : Option Addr} {cap : Nat} {bs : List Nat} {Fs : Nat → Nat → Prop} {B : Nat}
theorem TPs.store (h : TPs w ss cur b a cap bs Fs B W) {g : Nat} (h1 : w.heap.size ≤ g) (h2 : g < B) (i : Nat) (u : Value) : TPs w ss cur b a cap bs Fs B (W.setCell ⟨g, i, none⟩ u) := by
 obtain ⟨Fs', h3, h4⟩ := h
 refine ⟨Fs', h3.other (fun hk => by rcases h4 g hk with h5 | ⟨h5, _⟩ <;> omega) h1 i u, fun k hk => ?_⟩
 rcases h4 k hk with h5 | ⟨h5, o, ho, hc⟩
 ·exact .inl h5
 ·exact .inr ⟨h5, o, at_set ho (by dsimp only; omega), hc⟩
theorem TPs.setCur (h : TPs w ss cur b a cap bs Fs B W) (h2 : b < B) (c : Nat) : TPs w ss c b a cap bs Fs B (W.setCell ⟨b, 1, none⟩ (.int .i64 (c : Int))) := by
 obtain ⟨Fs', h3, h4⟩ := h
 refine ⟨Fs', h3.setCur c, fun k hk => ?_⟩
 rcases h4 k hk with h5 | ⟨h5, o, ho, hc⟩
 ·exact .inl h5
 ·exact .inr ⟨h5, o, at_set ho (by dsimp only; omega), hc⟩
theorem TPs.drew (h : TPs w ss cur b a cap bs Fs B W) : TPs w ss cur b a cap bs Fs B W.drew := by
 obtain ⟨Fs', h3, h4⟩ := h
 exact ⟨Fs', h3.bel ((Below.refl _ W).drew), h4⟩
theorem TPs.cells (h : TPs w ss cur b a cap bs Fs B W) : W.cell? ⟨b, 0, none⟩ = some (.slice a ss.length cap) ∧ W.cell? ⟨b, 1, none⟩ = some (.int .i64 (cur : Int)) ∧ W.frozen? ⟨b, 1, none⟩ = false := by
 obtain ⟨Fs', h3, h4⟩ := h
 exact ⟨h3.at'.cells.1, h3.at'.cells.2, h3.at'.free 1⟩
theorem TPs.took (h : PsAt w 188 249 185 b ss cur a cap bs Fs) {W' : World} (hb : Below w.heap.size w W) (hB : B ≤ W.heap.size) {i : Nat} (hi : i < ss.length) {s' : LS} {F' : Nat → Prop} (hm : Mod (Fs i) W W') (hL : Ln W' 249 (bs.getD i 0) F' s') (hF' : ∀ k, F' k → Fs i k ∨ W.heap.size ≤ k) (hc : ∀ k, F' k → ∃ o, W'.heap[k]? = some o ∧ o.isCells = true) :
  TPs w (ss.set i s') cur b a cap bs Fs B W' := by
 have h1 := (h.to.bel hb).laneF hi hm hL hF'
 refine ⟨_, h1, fun k hk => ?_⟩
 rw [List.length_set] at hk
 rcases hk with rfl | hk | ⟨j, hj, hk⟩
 ·exact .inl h.blt
 ·exact .inl (h.row.lt k hk)
 ·by_cases e : j = i
  ·rw [if_pos e] at hk
   rcases hF' k hk with h2 | h2
   ·exact .inl ((h.lns i hi).lt k h2)
   ·exact .inr ⟨Nat.le_trans hB h2, hc k hk⟩
  ·rw [if_neg e] at hk
   exact .inl ((h.lns j hj).lt k hk)
end
structure Took (w : World) (ss : List LS) (b : Nat) (a : Option Addr) (cap : Nat) (bs : List Nat) (Fs : Nat → Nat → Prop) (B : Nat) (i : Nat) (W : World) : Prop where
 box : TkBox W w.heap.size b (takeL (lnOf ss i)).1.1 (i : Int) (takeL (lnOf ss i)).1.2.1 (takeL (lnOf ss i)).1.2.2.1 (takeL (lnOf ss i)).1.2.2.2
 ps : TPs w (ss.set i (takeL (lnOf ss i)).2) ((i + 1) % ss.length) b a cap bs Fs B W
theorem Took.turn {w : World} {ss : List LS} {b : Nat} {a : Option Addr} {cap : Nat} {bs : List Nat} {Fs : Nat → Nat → Prop} {B i : Nat} {W W' : World} {row : Option Nat} (h : Took w ss b a cap bs Fs B i W) (hB : w.heap.size + 6 ≤ B) (hm : Mod (fun k => row = some k) W W') (hr : ∀ r, row = some r → B ≤ r ∧ ∃ o : Obj, W.heap[r]? = some o ∧ o.isCells = false) :
  Took w ss b a cap bs Fs B i W' := by
 obtain ⟨Fs', h1, h2⟩ := h.ps
 have hne : ∀ k, (∃ o : Obj, W.heap[k]? = some o ∧ o.isCells = true) → row ≠ some k := fun k ⟨o, ho, hc⟩ e => by
  obtain ⟨_, o', ho', hc'⟩ := hr k e
  rw [ho] at ho'
  cases ho'
  rw [hc] at hc'
  cases hc'
 have hlt : ∀ k, (∃ o : Obj, W.heap[k]? = some o ∧ o.isCells = true) → W'.heap[k]? = W.heap[k]? := fun k hk => hm.block k (by obtain ⟨o, ho, _⟩ := hk; exact (Array.getElem?_eq_some_iff.1 ho).1) (hne k hk)
 refine ⟨h.box.kept (fun k hk1 hk2 => hlt k (h.box.isCells k hk1 hk2)), Fs', h1.modify hm (fun k hk e => ?_) (fun k e => by have := (hr k e).1; omega), fun k hk => ?_⟩
 ·rcases h2 k hk with h3 | ⟨_, h3⟩
  ·have := (hr k e).1; omega
  ·exact hne k h3 e
 ·rcases h2 k hk with h3 | ⟨h4, h3⟩
  ·exact .inl h3
  ·obtain ⟨o, ho, hc⟩ := h3
   exact .inr ⟨h4, o, (hlt k ⟨o, ho, hc⟩).trans ho, hc⟩
theorem mod_grown {W W' : World} {row : Option Nat} (h : W.grownBy W' row) : Mod (fun k => row = some k) W W' := ⟨h.os, h.tape, h.output, h.size, fun k hk hn => h.block k hk (fun e => hn e.symm)⟩
end Go.Proofs.YthnjeejnnhadeaaGreatDoor.Lane

namespace Go.Proofs.YthnjeejnnhadeaaGreatDoor.Lane
open Go.RowKit Go.Shelf
attribute [local go_sem] Oper.semAt_some
def ptkV (t : Int × Int × (Int × Int) × Bool × Int) : Value := .tuple #[.int .i64 t.1, .int .i64 t.2.1, .agg #[.int .i64 t.2.2.1.1, .int .i64 t.2.2.1.2], .bool t.2.2.2.1, .int .i64 t.2.2.2.2]
set_option maxRecDepth 100000 in
set_option maxHeartbeats 4000000 in
theorem ptake_any {b : Nat} {F : Nat → Prop} {ss : List LS} {cur : Nat} {w : World} (h : Ps w 188 249 185 b F ss cur) (hg : GoodP ss cur) (hn : ∀ s ∈ ss, s.ws.length ≤ 8000000000000) :
    Calls Tryz.prog 171 #[.pointer (some ⟨b, 0, none⟩)] w fun e w' => e = .returned (ptkV (takeP ss cur).1) ∧ PsOut w 188 249 185 b F (takeP ss cur).2.1 (takeP ss cur).2.2 w' := by
  obtain ⟨Q, hQ⟩ : ∃ Q : Ending → World → Prop, Hid ((fun e w' => e = .returned (ptkV (takeP ss cur).1) ∧ PsOut w 188 249 185 b F (takeP ss cur).2.1 (takeP ss cur).2.2 w') = Q) := ⟨_, rfl⟩
  rw [hQ.out]
  have HPS := hd h
  obtain ⟨a, cap, bs, Fs, h, hF, -⟩ := h
  have HP := hd h
  have hbl := h.blt
  have T0 := hd (tk_new w b)
  clear h
  refine (callsIn_wide (n := 3)).1 ?_
  refine callsIn_of_wp_marks Tryz.func171 rfl trivial ?_ rfl
  simp only [Tryz.ntmps171, List.size_toArray, List.length_cons, List.length_nil, Nat.reduceAdd, Nat.reduceSub, Array.replicate_succ, Array.replicate_zero, List.push_toArray, List.append_toArray, List.nil_append, List.cons_append]
  refine wpIn_wide.2 ?_
  go_wp2_with fail
  have HB6 : Hid (Below w.heap.size w ((((((w.alloc (.cells #[.pointer (some ⟨b, 0, none⟩)] 113)).alloc (.cells #[.int .i64 0] 2)).alloc (.cells #[.int .i64 0] 3)).alloc (.cells #[.int .i64 0, .int .i64 0] 155)).alloc (.cells #[.bool false] 4)).alloc (.cells #[.int .i64 0] 30)) ∧ ((((((w.alloc (.cells #[.pointer (some ⟨b, 0, none⟩)] 113)).alloc (.cells #[.int .i64 0] 2)).alloc (.cells #[.int .i64 0] 3)).alloc (.cells #[.int .i64 0, .int .i64 0] 155)).alloc (.cells #[.bool false] 4)).alloc (.cells #[.int .i64 0] 30)).heap.size = w.heap.size + 6) :=
    hd ⟨((((((Below.refl _ w).alloc (Nat.le_refl _) _).alloc (by simp) _).alloc (by simp; omega) _).alloc (by simp; omega) _).alloc (by simp; omega) _).alloc (by simp; omega) _, by simp⟩
  obtain ⟨w6, hw6⟩ : ∃ W, Hid ((((((w.alloc (.cells #[.pointer (some ⟨b, 0, none⟩)] 113)).alloc (.cells #[.int .i64 0] 2)).alloc (.cells #[.int .i64 0] 3)).alloc (.cells #[.int .i64 0, .int .i64 0] 155)).alloc (.cells #[.bool false] 4)).alloc (.cells #[.int .i64 0] 30) = W) := ⟨_, rfl⟩
  rw [hw6.out] at HB6 T0 ⊢
  clear hw6
  have T1 := hd (T0.out.putE 21)
  obtain ⟨f0, f1, f2, f3, f4, f5, f6⟩ := T0.out.free
  obtain ⟨c0, c1, c2, c3, c4, c5, c6⟩ := T0.out.cells
  go_step3
  go_wp2_with fail
  go_step3
  have HB7 : Hid (Below w.heap.size w (w6.setCell ⟨w.heap.size + 1 + 1 + 1 + 1 + 1, 0, none⟩ (.int .i64 21)) ∧ (w6.setCell ⟨w.heap.size + 1 + 1 + 1 + 1 + 1, 0, none⟩ (.int .i64 21)).heap.size = w.heap.size + 6) :=
    hd ⟨HB6.out.1.setCell (p := ⟨w.heap.size + 1 + 1 + 1 + 1 + 1, 0, none⟩) (by dsimp only; omega) _, by have := HB6.out.2; simpa [World.setCell] using this⟩
  obtain ⟨w7, hw7⟩ : ∃ W, Hid (w6.setCell ⟨w.heap.size + 1 + 1 + 1 + 1 + 1, 0, none⟩ (.int .i64 21) = W) := ⟨_, rfl⟩
  rw [hw7.out] at HB7 T1 ⊢
  clear hw7 T0 HB6 f0 f1 f2 f3 f4 f5 f6 c0 c1 c2 c3 c4 c5 c6
  have c0 := T1.out.cells.1
  have hro := round_any (b := b) (w := w7)
  go_wp2_with (first | (go_at_call 220; refine hro.mono ?_; rintro e1 w1 ⟨rfl, rfl⟩))
  have HB8 : Hid (Below w.heap.size w (w7.alloc (.cells #[.pointer (some ⟨b, 0, none⟩)] 113)) ∧ (w7.alloc (.cells #[.pointer (some ⟨b, 0, none⟩)] 113)).heap.size = w.heap.size + 7 ∧ (w7.alloc (.cells #[.pointer (some ⟨b, 0, none⟩)] 113)).heap[w7.heap.size]? = some (.cells #[.pointer (some ⟨b, 0, none⟩)] 113 (0, 0)) ∧ TkBox (w7.alloc (.cells #[.pointer (some ⟨b, 0, none⟩)] 113)) w.heap.size b 0 0 (0, 0) false 21) :=
    hd ⟨HB7.out.1.alloc HB7.out.1.size _, by rw [World.size_alloc, HB7.out.2], heap_alloc_new _ _, T1.out.kept (fun k _ hk => Below.heap_alloc _ _ _ (by rw [HB7.out.2]; omega))⟩
  obtain ⟨W0, hW0⟩ : ∃ W, Hid (w7.alloc (.cells #[.pointer (some ⟨b, 0, none⟩)] 113) = W) := ⟨_, rfl⟩
  rw [hW0.out] at HB8 ⊢
  rw [HB7.out.2] at HB8 ⊢
  clear hW0 HB7 T1 c0 hro
  have HN : Hid (0 < ss.length) := hd hg.n1
  obtain ⟨g, hga, -⟩ := HP.out.ptr 0 HN.out
  subst hga
  have HA := hd (HP.out.below (HB8.out.1))
  refine (wpIn_wide (n := 3)).1 ?_
  refine wpIn_rangeFunc_ownG rfl (by omega) (gf := 255) (lb := #[.pointer (some ⟨w.heap.size + 6, 0, none⟩)]) rfl trivial (enters_of Tryz.func255 (by kernel_rfl) rfl)
    (round1_stops (n := ss.length) (cur := cur) (n₀ := W0.heap.size) (Bp := w.heap.size + 6) (b := b) (g := g) (cap := cap) (bs := bs) (w := W0) 2 (by omega) HN.out hg.n2 hg.cu (by rw [cell_of_row _ _ _ _ _ _ HB8.out.2.2.1]; rfl) (by rw [HB8.out.2.1]; omega) HA.out.cells.1 HA.out.cells.2 (by rw [HB8.out.2.1]; omega)
      (fun i hi => by obtain ⟨g', e, hc⟩ := HA.out.ptr i hi; cases e; exact hc) (HA.out.row.lt g rfl) (Nat.le_refl _))
    belowK_t (belowK_b (Nat.le_refl _)) (Below.refl _ _) (fun _ => rfl)
    (fun pre W => (∀ y ∈ pre, (lnOf ss y.1).vs = []) ∧ Below W0.heap.size W0 W)
    (fun c pre W => c = .exit 0 ∧ ∃ q x, pre = q ++ [x] ∧ (∀ y ∈ q, (lnOf ss y.1).vs = []) ∧ (lnOf ss x.1).vs ≠ [] ∧ Took w ss b (some ⟨g, 0, none⟩) cap bs Fs W0.heap.size x.1 W)
    (OwnFrom.and (fun _ _ _ _ h _ _ => h) (ownFrom_below (Nat.le_refl _) (Nat.le_refl _)))
    (fun c s A B row hs hg' hr => by
      obtain ⟨h1, q, x, h2, h3, h4, h5⟩ := hs
      exact ⟨h1, q, x, h2, h3, h4, h5.turn (by rw [HB8.out.2.1]; omega) (mod_grown hg') hr⟩)
    ⟨by simp, Below.refl _ _⟩
    (fun x => { tmps := #[.pointer (some ⟨b, 0, none⟩), .pointer (some ⟨w.heap.size, 0, none⟩), .pointer (some ⟨w.heap.size + 1, 0, none⟩), .pointer (some ⟨w.heap.size + 1 + 1, 0, none⟩), .pointer (some ⟨w.heap.size + 1 + 1 + 1, 0, none⟩), .pointer (some ⟨w.heap.size + 1 + 1 + 1 + 1, 0, none⟩), .pointer (some ⟨w.heap.size + 1 + 1 + 1 + 1 + 1, 0, none⟩), .int .i64 (x.1 : Int), .pointer (some ⟨bAt bs x.1, 0, none⟩), .pointer (some ⟨b, 0, none⟩), .func (.func 255) #[] #[.pointer (some ⟨w.heap.size + 6, 0, none⟩)], .int .i64 (x.1 : Int), .pointer (some ⟨bAt bs x.1, 0, none⟩), undef, undef, undef, undef, undef, undef, undef, undef, undef, undef, undef, undef, undef, undef, undef, undef, undef, undef, undef, undef, undef, undef], defers := [] }) ?assign ?body ?done ?stop
  case assign =>
    intro l x W K hK
    simp only [enc]
    gi_wp2
    exact hK
  case body =>
    rintro l pre x W ⟨hpre, hBW⟩ _
    obtain ⟨i, hi⟩ := x
    have HPW := hd (HA.out.below hBW)
    have HTW : Hid (TkBox W w.heap.size b 0 0 (0, 0) false 21) := hd (HB8.out.2.2.2.kept (fun k _ hk => hBW.block k (by rw [HB8.out.2.1]; omega)))
    have hlen := len_any (HPW.out.lns i hi)
    have hlen : Calls Tryz.prog 221 #[.pointer (some ⟨bAt bs i, 0, none⟩)] W fun e w' => e = .returned (.int .i64 (lnOf ss i).vs.length) ∧ w' = W := hlen
    by_cases hv : (lnOf ss i).vs = []
    · rw [hv] at hlen
      simp only [List.length_nil] at hlen
      gi_wp2_with (refine ⟨trivial, ?_⟩; gi_at_call 221; refine (CallsIn.inRound l (callsIn_wide.2 hlen)).mono ?_; rintro e W ⟨rfl, rfl⟩)
      exact ⟨KeepsFrom.refl _ _, Below.refl _ _, fun y hy => by
        rcases List.mem_append.1 hy with h | h
        · exact hpre y h
        · simp at h; rw [h]; exact hv, hBW⟩
    · have hl0 : 0 < (lnOf ss i).vs.length := List.length_pos_iff.2 hv
      obtain ⟨n, hnn⟩ : ∃ n, Hid ((lnOf ss i).vs.length = n) := ⟨_, rfl⟩
      have hn0 : ((n : Int) == 0) = false := by have := hnn.out; simp; omega
      rw [hnn.out] at hlen
      have htk := take_any (HPW.out.lns i hi) (hg.at hi) (hn _ (lnOf_mem hi))
      have htk : Calls Tryz.prog 222 #[.pointer (some ⟨bAt bs i, 0, none⟩)] W fun e w' => e = .returned (tkV (takeL (lnOf ss i)).1) ∧ LnOut W 249 (bs.getD i 0) (Fs i) (takeL (lnOf ss i)).2 w' := htk
      obtain ⟨r, hr⟩ : ∃ r, Hid (takeL (lnOf ss i) = r) := ⟨_, rfl⟩
      rw [hr.out] at htk
      unfold tkV at htk
      clear hl0
      gi_wp2_with (first
        | (refine ⟨trivial, ?_⟩; gi_at_call 221; refine (CallsIn.inRound l (callsIn_wide.2 hlen)).mono ?_; rintro e W ⟨rfl, rfl⟩)
        | (refine ⟨trivial, ?_⟩; gi_at_call 222; refine (CallsIn.inRound l (callsIn_wide.2 htk)).mono ?_; rintro e w2 ⟨rfl, ho⟩
           have HO := hd ho.cells
           have HT2 : Hid (TkBox w2 w.heap.size b 0 0 (0, 0) false 21) := hd (HTW.out.kept (fun k hk1 hk2 => ho.1.block k (by have := hBW.size; have := HB8.out.2.1; omega) (fun hF' => by have := (HP.out.lns i hi).lt k hF'; omega)))
           clear ho
           obtain ⟨f0, f1, f2, f3, f4, f5, f6⟩ := HT2.out.free
           obtain ⟨c0, c1, c2, c3, c4, c5, c6⟩ := HT2.out.cells))
      have HT3 := hd (HT2.out.put r.1.1 r.1.2.1 r.1.2.2.1 r.1.2.2.2)
      have HP3 : Hid (TPs w (ss.set i r.2) cur b (some ⟨g, 0, none⟩) cap bs Fs W0.heap.size (((((w2.setCell ⟨w.heap.size + 1, 0, none⟩ (.int .i64 r.1.1)).setCell ⟨w.heap.size + 1 + 1 + 1, 0, none⟩ (.int .i64 r.1.2.1.1)).setCell ⟨w.heap.size + 1 + 1 + 1, 1, none⟩ (.int .i64 r.1.2.1.2)).setCell ⟨w.heap.size + 1 + 1 + 1 + 1, 0, none⟩ (.bool r.1.2.2.1)).setCell ⟨w.heap.size + 1 + 1 + 1 + 1 + 1, 0, none⟩ (.int .i64 r.1.2.2.2))) := hd (by
        obtain ⟨hm, F', hL, hF', hc⟩ := HO.out
        have hs := HB8.out.2.1
        exact ((((TPs.took HP.out (HB8.out.1.trans (hBW.mono (by omega))) hBW.size hi hm hL hF' hc).store (by omega) (by omega) _ _).store (by omega) (by omega) _ _).store (by omega) (by omega) _ _).store (by omega) (by omega) _ _ |>.store (by omega) (by omega) _ _)
      have HKF : Hid (KeepsFrom W0.heap.size W (((((w2.setCell ⟨w.heap.size + 1, 0, none⟩ (.int .i64 r.1.1)).setCell ⟨w.heap.size + 1 + 1 + 1, 0, none⟩ (.int .i64 r.1.2.1.1)).setCell ⟨w.heap.size + 1 + 1 + 1, 1, none⟩ (.int .i64 r.1.2.1.2)).setCell ⟨w.heap.size + 1 + 1 + 1 + 1, 0, none⟩ (.bool r.1.2.2.1)).setCell ⟨w.heap.size + 1 + 1 + 1 + 1 + 1, 0, none⟩ (.int .i64 r.1.2.2.2))) := hd (by
        have hs := HB8.out.2.1
        exact (keepsFrom_mod HO.out.1 (fun k hk => by have := (HP.out.lns i hi).lt k hk; omega)).trans ((((((KeepsOthers.setCell _ _ _).trans (KeepsOthers.setCell _ _ _)).trans (KeepsOthers.setCell _ _ _)).trans (KeepsOthers.setCell _ _ _)).trans (KeepsOthers.setCell _ _ _)).from _))
      obtain ⟨w3, hw3⟩ : ∃ W, Hid (((((w2.setCell ⟨w.heap.size + 1, 0, none⟩ (.int .i64 r.1.1)).setCell ⟨w.heap.size + 1 + 1 + 1, 0, none⟩ (.int .i64 r.1.2.1.1)).setCell ⟨w.heap.size + 1 + 1 + 1, 1, none⟩ (.int .i64 r.1.2.1.2)).setCell ⟨w.heap.size + 1 + 1 + 1 + 1, 0, none⟩ (.bool r.1.2.2.1)).setCell ⟨w.heap.size + 1 + 1 + 1 + 1 + 1, 0, none⟩ (.int .i64 r.1.2.2.2) = W) := ⟨_, rfl⟩
      rw [hw3.out] at HT3 HP3 HKF ⊢
      clear hw3 HT2 HTW f0 f1 f2 f3 f4 f5 f6 c0 c1 c2 c3 c4 c5 c6 hlen htk
      have c0 := HT3.out.cells.1
      have c2 := HT3.out.cells.2.2.1
      have f2 := HT3.out.free.2.2.1
      obtain ⟨q0, q1, q2⟩ := HP3.out.cells
      rw [List.length_set] at q0
      obtain ⟨nn, hnn2⟩ : ∃ n, Hid (ss.length = n) := ⟨_, rfl⟩
      obtain ⟨i2, hi2⟩ : ∃ i2, Hid ((i + 1) % ss.length = i2) := ⟨_, rfl⟩
      have hbe : ∀ W' : World, W'.cell? ⟨b, 0, none⟩ = some (.slice (some ⟨g, 0, none⟩) nn cap) → Calls Tryz.prog 223 #[.pointer (some ⟨b, 0, none⟩), .int .i64 (i : Int)] W' fun e w' => e = .returned (.int .i64 (i2 : Int)) ∧ w' = W' := fun W' hq => behind_any hq (by rw [← hnn2.out]; exact hi) (by rw [← hnn2.out]; exact hg.n2) (by rw [← hi2.out, hnn2.out])
      rw [hnn2.out] at q0
      have hso : ∀ (W : World) (k : Nat) (u : Value) (j : Nat), (W.setCell ⟨w.heap.size + 1 + 1, k, none⟩ u).cell? ⟨b, j, none⟩ = W.cell? ⟨b, j, none⟩ := fun W k u j => World.cell?_of_block (Below.heap_setCell _ _ _ _ (by dsimp only; omega))
      have HFIN : Hid (KeepsFrom W0.heap.size W ((w3.setCell ⟨w.heap.size + 1 + 1, 0, none⟩ (.int .i64 (i : Int))).setCell ⟨b, 1, none⟩ (.int .i64 (i2 : Int))).drew ∧ (∃ q x, pre ++ [(⟨i, hi⟩ : LNo ss.length)] = q ++ [x] ∧ (∀ y ∈ q, (lnOf ss y.1).vs = []) ∧ (lnOf ss x.1).vs ≠ [] ∧ Took w ss b (some ⟨g, 0, none⟩) cap bs Fs W0.heap.size x.1 ((w3.setCell ⟨w.heap.size + 1 + 1, 0, none⟩ (.int .i64 (i : Int))).setCell ⟨b, 1, none⟩ (.int .i64 (i2 : Int))).drew)) := hd (by
        have hs := HB8.out.2.1
        refine ⟨HKF.out.trans (((KeepsOthers.setCell _ _ _).trans (KeepsOthers.setCell _ _ _)).trans (KeepsOthers.drew _) |>.from _), pre, ⟨i, hi⟩, rfl, hpre, hv, ?_, ?_⟩
        · rw [hr.out]
          exact (HT3.out.putLn (i : Int)).kept (fun k hk1 hk2 => at_set (w := w3.setCell ⟨w.heap.size + 1 + 1, 0, none⟩ (.int .i64 (i : Int))) rfl (by dsimp only; omega))
        · rw [hr.out, hi2.out]
          exact (((HP3.out.store (by omega) (by omega) _ _).setCur (by omega) i2).drew))
      have hmx : Tryz.prog.follows .mixedOrders = true := by kernel_rfl
      gi_region_with_o (refine ⟨trivial, ?_⟩; gi_at_call 223; refine (CallsIn.inRound l (callsIn_wide.2 (hbe _ (by simpa using q0)))).mono ?_; rintro e w3 ⟨rfl, rfl⟩)
      all_goals gi_wp2
      all_goals exact ⟨HFIN.out.1, rfl, HFIN.out.2⟩
  case done =>
    rintro D xs W hD rfl ⟨hall, hBW⟩ hK
    have HT9 : Hid (TkBox W w.heap.size b 0 0 (0, 0) false 21) := hd (HB8.out.2.2.2.kept (fun k _ hk => hBW.block k (by rw [HB8.out.2.1]; omega)))
    obtain ⟨f0, f1, f2, f3, f4, f5, f6⟩ := HT9.out.free
    obtain ⟨c0, c1, c2, c3, c4, c5, c6⟩ := HT9.out.cells
    obtain ⟨s1, s2, s3, s4, s5, s6⟩ := HT9.out.idle
    go_wp2_with fail
    go_region_held3 (fun w' => w'.cell? ⟨w.heap.size + 1, 0, none⟩ = some (.int .i64 0) ∧ w'.cell? ⟨w.heap.size + 1 + 1, 0, none⟩ = some (.int .i64 0) ∧ w'.cell? ⟨w.heap.size + 1 + 1 + 1, 0, none⟩ = some (.int .i64 0) ∧ w'.cell? ⟨w.heap.size + 1 + 1 + 1, 1, none⟩ = some (.int .i64 0) ∧ w'.cell? ⟨w.heap.size + 1 + 1 + 1 + 1, 0, none⟩ = some (.bool false) ∧ w'.cell? ⟨w.heap.size + 1 + 1 + 1 + 1 + 1, 0, none⟩ = some (.int .i64 21)) (go_keep) (fail)
    go_wp2_with fail
    rw [Exit.noGoto_ret]
    refine ⟨by simp, .inl ⟨_, _, rfl, run_takeDeferred (w := W.drew) hK, ?_⟩⟩
    have HB9 : Hid (Below w.heap.size w (W.drew.putObj D (.deferred none))) := hd ((HB8.out.1.trans (hBW.mono HB8.out.1.size)).drew.trans (belowK_b (w := w) (Nat.le_refl _) W.drew D _ _ (by have := HB8.out.1.size; omega) hK rfl rfl))
    have HT10 : Hid (TkBox (W.drew.putObj D (.deferred none)) w.heap.size b 0 0 (0, 0) false 21) := hd (HT9.out.kept (fun k _ hk => World.putObj_heap_other (by have := HB8.out.2.1; omega)))
    obtain ⟨-, c1, c2, c3, c4, c5, c6⟩ := HT10.out.cells
    refine ⟨ptkV (0, 0, (0, 0), false, 21), ?_, ?_⟩
    · simp [results, Tryz.results171, go_sem, ptkV, c1, c2, c3, c4, c5, c6]
    · rw [← hQ.out, takeP_none (fun j hj => hall ⟨rnd ss.length cur j, rnd_lt HN.out⟩ (List.mem_map.2 ⟨j, by simpa using hj, rfl⟩))]
      exact ⟨rfl, PsOut.same HPS.out HB9.out⟩
  case stop =>
    rintro D c pre W hD ⟨k, hk, rfl⟩ ⟨rfl, q, x, hqx, hq, hne, hT⟩ hK
    rw [ups_succ] at hqx
    obtain ⟨rfl, hx⟩ := List.append_inj' hqx rfl
    obtain rfl : (⟨rnd ss.length cur k, rnd_lt HN.out⟩ : LNo ss.length) = x := by simpa using hx
    have HTK : Hid (takeP ss cur = _) := hd (takeP_some (i := rnd ss.length cur k) rfl hk hne (fun j hj => hq ⟨rnd ss.length cur j, rnd_lt HN.out⟩ (List.mem_map.2 ⟨j, by simpa using hj, rfl⟩)))
    obtain ⟨i, hi⟩ : ∃ i, Hid (rnd ss.length cur k = i) := ⟨_, rfl⟩
    simp only at hT
    rw [hi.out] at HTK hT
    clear hqx hx hq hne
    have HT := hd hT
    obtain ⟨r, hr⟩ : ∃ r, Hid (takeL (lnOf ss i) = r) := ⟨_, rfl⟩
    have HT9 := hd hT.box
    rw [hr.out] at HT9
    clear hT
    obtain ⟨f0, f1, f2, f3, f4, f5, f6⟩ := HT9.out.free
    obtain ⟨c0, c1, c2, c3, c4, c5, c6⟩ := HT9.out.cells
    obtain ⟨s1, s2, s3, s4, s5, s6⟩ := HT9.out.idle
    refine wpIn_wide.2 ?_
    go_wp2_with fail
    go_region_held3 (fun w' => w'.cell? ⟨w.heap.size + 1, 0, none⟩ = some (.int .i64 r.1.1) ∧ w'.cell? ⟨w.heap.size + 1 + 1, 0, none⟩ = some (.int .i64 (i : Int)) ∧ w'.cell? ⟨w.heap.size + 1 + 1 + 1, 0, none⟩ = some (.int .i64 r.1.2.1.1) ∧ w'.cell? ⟨w.heap.size + 1 + 1 + 1, 1, none⟩ = some (.int .i64 r.1.2.1.2) ∧ w'.cell? ⟨w.heap.size + 1 + 1 + 1 + 1, 0, none⟩ = some (.bool r.1.2.2.1) ∧ w'.cell? ⟨w.heap.size + 1 + 1 + 1 + 1 + 1, 0, none⟩ = some (.int .i64 r.1.2.2.2)) (go_keep) (fail)
    go_wp2_with fail
    rw [Exit.noGoto_ret]
    refine ⟨by simp, .inl ⟨_, _, rfl, run_takeDeferred (w := W.drew) hK, ?_⟩⟩
    have HT10 := hd ((Took.mk (W := W.drew) (HT.out.box.kept (fun _ _ _ => rfl)) HT.out.ps.drew).turn (by have := HB8.out.2.1; omega) (mod_grown (grownBy_putObj' W.drew D (.deferred none))) (fun r e => by cases e; exact ⟨hD, _, hK, rfl⟩))
    have HT11 := hd HT10.out.box
    rw [hr.out] at HT11
    obtain ⟨-, c1, c2, c3, c4, c5, c6⟩ := HT11.out.cells
    refine ⟨ptkV (r.1.1, (i : Int), r.1.2.1, r.1.2.2.1, r.1.2.2.2), ?_, ?_⟩
    · simp [results, Tryz.results171, go_sem, ptkV, c1, c2, c3, c4, c5, c6]
    · rw [← hQ.out, HTK.out]
      have h1 := HT10.out.ps
      rw [hr.out] at h1 ⊢
      obtain ⟨Fs', h2, -⟩ := h1
      exact ⟨rfl, h2.out (by rw [List.length_set]; exact hF)⟩
end Go.Proofs.YthnjeejnnhadeaaGreatDoor.Lane
