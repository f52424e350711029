/- The lanes of a process in memory. -/
import Derived.Test.YtknklbojcnhjcaaLWC
import Derived.Test.YtknklbojcnhjcaaPM1
namespace Go.Proofs.Ytknklbojcnhjcaa
open Go.RowKit

/-- Pointers as cells. -/
def pC (bs : List Nat) : List Value := bs.map (fun b => .pointer (some ⟨b, 0, none⟩))
theorem pC_len (l : List Nat) : (pC l).length = l.length * 1 := by simp [pC]
theorem pC_app (l m : List Nat) : pC (l ++ m) = pC l ++ pC m := by simp [pC]
theorem pC_at (l : List Nat) (i : Nat) (h : i < l.length) : (pC l)[i]? = some (.pointer (some ⟨l.getD i 0, 0, none⟩)) := by
  simp [pC, List.getD_eq_getElem?_getD, List.getElem?_eq_getElem h]
theorem pC_one (l : List Nat) : ∀ u ∈ pC l, u.oneCell' = true := by
  intro u hu
  obtain ⟨x, _, rfl⟩ := List.mem_map.mp hu
  rfl

/-- The blocks of lanes. -/
def pfp (b : Nat) (a : Option Addr) (n : Nat) (Fs : Nat → Nat → Prop) (k : Nat) : Prop := k = b ∨ blk a = some k ∨ ∃ i, i < n ∧ Fs i k

/-- Lanes: the head at the block b, the list of them at a. -/
structure PsAt (w : World) (TP TL TE : TypeId) (b : Nat) (ss : List LS) (cur : Nat) (a : Option Addr) (cap : Nat) (bs : List Nat) (Fs : Nat → Nat → Prop) : Prop where
  obj : w.heap[b]? = some (.cells #[.slice a ss.length cap, .int .i64 (cur : Int)] TP (0, 0))
  row : Row w TE 1 a ss.length cap (pC bs)
  lns : ∀ i, i < ss.length → Ln w TL (bs.getD i 0) (Fs i) (lnOf ss i)
  ap : ∀ i j, i < ss.length → j < ss.length → i ≠ j → ∀ k, Fs i k → ¬ Fs j k
  fa : ∀ k, blk a = some k → k ≠ b ∧ ∀ i, i < ss.length → ¬ Fs i k
  fb : ∀ i, i < ss.length → ¬ Fs i b

section
variable {w w' w0 : World} {TP TL TE : TypeId} {b : Nat} {ss ss' : List LS} {cur : Nat} {a : Option Addr} {cap : Nat} {bs : List Nat} {Fs : Nat → Nat → Prop}
theorem PsAt.blen (h : PsAt w TP TL TE b ss cur a cap bs Fs) : bs.length = ss.length := by
  have := h.row.len
  rw [pC_len] at this
  omega
theorem PsAt.blt (h : PsAt w TP TL TE b ss cur a cap bs Fs) : b < w.heap.size := (Array.getElem?_eq_some_iff.1 h.obj).1
theorem PsAt.lt (h : PsAt w TP TL TE b ss cur a cap bs Fs) : ∀ k, pfp b a ss.length Fs k → k < w.heap.size := fun k hk => by
  rcases hk with rfl | hk | ⟨i, hi, hk⟩
  · exact h.blt
  · exact h.row.lt k hk
  · exact (h.lns i hi).lt k hk
theorem PsAt.mod {S : Nat → Prop} (h : PsAt w TP TL TE b ss cur a cap bs Fs) (hm : Mod S w w') (hn : ∀ k, pfp b a ss.length Fs k → ¬ S k) : PsAt w' TP TL TE b ss cur a cap bs Fs :=
  ⟨by rw [hm.block b h.blt (hn b (.inl rfl))]; exact h.obj, h.row.mod hm (fun k hk => hn k (.inr (.inl hk))), fun i hi => (h.lns i hi).mod hm (fun k hk => hn k (.inr (.inr ⟨i, hi, hk⟩))), h.ap, h.fa, h.fb⟩
theorem PsAt.below (h : PsAt w TP TL TE b ss cur a cap bs Fs) (hb : Below w.heap.size w w') : PsAt w' TP TL TE b ss cur a cap bs Fs := h.mod (Mod.of_below (fun _ => False) hb) (fun _ _ h => h)
theorem PsAt.cells (h : PsAt w TP TL TE b ss cur a cap bs Fs) : w.cell? ⟨b, 0, none⟩ = some (.slice a ss.length cap) ∧ w.cell? ⟨b, 1, none⟩ = some (.int .i64 (cur : Int)) := by
  refine ⟨?_, ?_⟩ <;> (rw [cell_of_row _ _ _ _ _ _ h.obj]; rfl)
theorem PsAt.free (h : PsAt w TP TL TE b ss cur a cap bs Fs) (i : Nat) : w.frozen? ⟨b, i, none⟩ = false := by simp [World.frozen?, h.obj]
theorem PsAt.ptr (h : PsAt w TP TL TE b ss cur a cap bs Fs) (i : Nat) (hi : i < ss.length) : ∃ g, a = some ⟨g, 0, none⟩ ∧ w.cell? ⟨g, i, none⟩ = some (.pointer (some ⟨bs.getD i 0, 0, none⟩)) := by
  obtain ⟨g, e, hc⟩ := h.row.cell i (by omega)
  exact ⟨g, e, by rw [hc, pC_at bs i (by rw [h.blen]; exact hi)]⟩

/-- What a run of calls leaves of them: the list of lanes is where it was. -/
structure PsTo (w : World) (TP TL TE : TypeId) (b : Nat) (a : Option Addr) (cap : Nat) (bs : List Nat) (Fs : Nat → Nat → Prop) (ss' : List LS) (cur' : Nat) (w' : World) (Fs' : Nat → Nat → Prop) : Prop where
  at' : PsAt w' TP TL TE b ss' cur' a cap bs Fs'
  mod : Mod (pfp b a ss'.length Fs) w w'
  new : ∀ k, pfp b a ss'.length Fs' k → pfp b a ss'.length Fs k ∨ w.heap.size ≤ k

theorem PsAt.to (h : PsAt w TP TL TE b ss cur a cap bs Fs) : PsTo w TP TL TE b a cap bs Fs ss cur w Fs := ⟨h, Mod.refl _ _, fun _ h => .inl h⟩
theorem PsTo.bel {w'' : World} {Fs' : Nat → Nat → Prop} (h : PsTo w TP TL TE b a cap bs Fs ss cur w' Fs') (hb : Below w'.heap.size w' w'') : PsTo w TP TL TE b a cap bs Fs ss cur w'' Fs' := ⟨h.at'.below hb, h.mod.after hb, h.new⟩
/-- One lane has changed. -/
theorem PsTo.laneF {w'' : World} {Fs' : Nat → Nat → Prop} (h : PsTo w TP TL TE b a cap bs Fs ss cur w' Fs') {i : Nat} (hi : i < ss.length) {s' : LS} {F' : Nat → Prop} (hm : Mod (Fs' i) w' w'') (hL : Ln w'' TL (bs.getD i 0) F' s') (hF' : ∀ k, F' k → Fs' i k ∨ w'.heap.size ≤ k) :
    PsTo w TP TL TE b a cap bs Fs (ss.set i s') cur w'' (fun j k => if j = i then F' k else Fs' j k) := by
  have hlt := h.at'.lt
  refine ⟨?_, ?_, ?_⟩
  · have hbl := h.at'.blt
    refine ⟨?_, ?_, ?_, ?_, ?_, ?_⟩
    · rw [List.length_set, hm.block b hbl (h.at'.fb i hi)]
      exact h.at'.obj
    · rw [List.length_set]
      exact h.at'.row.mod hm (fun k hk => (h.at'.fa k hk).2 i hi)
    · intro j hj
      rw [List.length_set] at hj
      rw [lnOf_set _ _ _ _ hi]
      by_cases e : j = i
      · subst e
        simp only [if_true]
        exact hL
      · simp only [if_neg e]
        exact (h.at'.lns j hj).mod hm (fun k hk => h.at'.ap j i hj hi e k hk)
    · intro j l hj hl hjl k hk hk2
      rw [List.length_set] at hj hl
      by_cases e : j = i
      · subst e
        rw [if_pos rfl] at hk
        rw [if_neg (fun e => hjl e.symm)] at hk2
        rcases hF' k hk with h1 | h1
        · exact h.at'.ap j l hj hl hjl k h1 hk2
        · have := (h.at'.lns l hl).lt k hk2; omega
      · rw [if_neg e] at hk
        by_cases e2 : l = i
        · subst e2
          rw [if_pos rfl] at hk2
          rcases hF' k hk2 with h1 | h1
          · exact h.at'.ap j l hj hl hjl k hk h1
          · have := (h.at'.lns j hj).lt k hk; omega
        · rw [if_neg e2] at hk2
          exact h.at'.ap j l hj hl hjl k hk hk2
    · intro k hk
      refine ⟨(h.at'.fa k hk).1, fun j hj hk2 => ?_⟩
      rw [List.length_set] at hj
      by_cases e : j = i
      · rw [if_pos e] at hk2
        rcases hF' k hk2 with h1 | h1
        · exact (h.at'.fa k hk).2 i hi h1
        · have := h.at'.row.lt k hk; omega
      · rw [if_neg e] at hk2
        exact (h.at'.fa k hk).2 j hj hk2
    · intro j hj hk2
      rw [List.length_set] at hj
      by_cases e : j = i
      · rw [if_pos e] at hk2
        rcases hF' b hk2 with h1 | h1
        · exact h.at'.fb i hi h1
        · omega
      · rw [if_neg e] at hk2
        exact h.at'.fb j hj hk2
  · rw [List.length_set]
    exact h.mod.trans hm (fun k hk => h.new k (.inr (.inr ⟨i, hi, hk⟩)))
  · rw [List.length_set]
    intro k hk
    rcases hk with hk | hk | ⟨j, hj, hk⟩
    · exact h.new k (.inl hk)
    · exact h.new k (.inr (.inl hk))
    · by_cases e : j = i
      · rw [if_pos e] at hk
        rcases hF' k hk with h1 | h1
        · exact h.new k (.inr (.inr ⟨i, hi, h1⟩))
        · exact .inr (Nat.le_trans h.mod.size h1)
      · rw [if_neg e] at hk
        exact h.new k (.inr (.inr ⟨j, hj, hk⟩))
theorem PsTo.lane {w'' : World} {Fs' : Nat → Nat → Prop} (h : PsTo w TP TL TE b a cap bs Fs ss cur w' Fs') {i : Nat} (hi : i < ss.length) {s' : LS} (ho : LnOut w' TL (bs.getD i 0) (Fs' i) s' w'') :
    ∃ Fs'', PsTo w TP TL TE b a cap bs Fs (ss.set i s') cur w'' Fs'' := by
  obtain ⟨hm, F', hL, hF'⟩ := ho
  exact ⟨_, h.laneF hi hm hL hF'⟩
/-- The cursor has changed. -/
theorem PsTo.setCur {Fs' : Nat → Nat → Prop} (h : PsTo w TP TL TE b a cap bs Fs ss cur w' Fs') (c : Nat) : PsTo w TP TL TE b a cap bs Fs ss c (w'.setCell ⟨b, 1, none⟩ (.int .i64 (c : Int))) Fs' := by
  have hk' : ∀ k, k ≠ b → (w'.setCell ⟨b, 1, none⟩ (.int .i64 (c : Int))).heap[k]? = w'.heap[k]? := fun k hk => Below.heap_setCell _ _ _ _ hk
  refine ⟨⟨?_, h.at'.row.kept fun k hk => hk' k (h.at'.fa k hk).1, fun i hi => ?_, h.at'.ap, h.at'.fa, h.at'.fb⟩, h.mod.setCell (.inl (.inl rfl)) _, h.new⟩
  · rw [heap_setCell_self h.at'.obj]
    rfl
  · exact (h.at'.lns i hi).mod (S := fun k => k = b) ⟨rfl, rfl, rfl, by simp [World.setCell], fun k _ hk => hk' k hk⟩ (fun k hk e => h.at'.fb i hi (e ▸ hk))
/-- Another block is written. -/
theorem PsTo.other {Fs' : Nat → Nat → Prop} (h : PsTo w TP TL TE b a cap bs Fs ss cur w' Fs') {g : Nat} (hg : ¬ pfp b a ss.length Fs' g) (hw : w.heap.size ≤ g) (i : Nat) (u : Value) : PsTo w TP TL TE b a cap bs Fs ss cur (w'.setCell ⟨g, i, none⟩ u) Fs' :=
  ⟨h.at'.mod (S := fun k => k = g) ⟨rfl, rfl, rfl, by simp [World.setCell], fun k _ hk => Below.heap_setCell _ _ _ _ hk⟩ (fun k hk e => hg (e ▸ hk)), h.mod.setCell (.inr hw) u, h.new⟩
theorem PsTo.modify {S : Nat → Prop} {w'' : World} {Fs' : Nat → Nat → Prop} (h : PsTo w TP TL TE b a cap bs Fs ss cur w' Fs') (hm : Mod S w' w'') (hn : ∀ k, pfp b a ss.length Fs' k → ¬ S k) (hw : ∀ k, S k → w.heap.size ≤ k) : PsTo w TP TL TE b a cap bs Fs ss cur w'' Fs' :=
  ⟨h.at'.mod hm hn, h.mod.trans hm (fun k hk => .inr (hw k hk)), h.new⟩

/-- Lanes at b; their blocks are among F. -/
def Ps (w : World) (TP TL TE : TypeId) (b : Nat) (F : Nat → Prop) (ss : List LS) (cur : Nat) : Prop :=
  ∃ a cap bs Fs, PsAt w TP TL TE b ss cur a cap bs Fs ∧ (∀ k, pfp b a ss.length Fs k → F k) ∧ ∀ k, F k → k < w.heap.size
theorem Ps.mod {F S : Nat → Prop} (h : Ps w TP TL TE b F ss cur) (hm : Mod S w w') (hn : ∀ k, F k → ¬ S k) : Ps w' TP TL TE b F ss cur := by
  obtain ⟨a, cap, bs, Fs, h1, h2, h3⟩ := h
  exact ⟨a, cap, bs, Fs, h1.mod hm fun k hk => hn k (h2 k hk), h2, fun k hk => Nat.lt_of_lt_of_le (h3 k hk) hm.size⟩
theorem Ps.below {F : Nat → Prop} (h : Ps w TP TL TE b F ss cur) (hb : Below w.heap.size w w') : Ps w' TP TL TE b F ss cur := h.mod (Mod.of_below (fun _ => False) hb) (fun _ _ h => h)
theorem Ps.lt {F : Nat → Prop} (h : Ps w TP TL TE b F ss cur) : ∀ k, F k → k < w.heap.size := by
  obtain ⟨a, cap, bs, Fs, h1, h2, h3⟩ := h
  exact h3
theorem PsAt.ps (h : PsAt w TP TL TE b ss cur a cap bs Fs) : Ps w TP TL TE b (pfp b a ss.length Fs) ss cur := ⟨a, cap, bs, Fs, h, fun _ h => h, h.lt⟩

/-- What a call leaves of lanes. -/
def PsOut (w : World) (TP TL TE : TypeId) (b : Nat) (F : Nat → Prop) (ss' : List LS) (cur' : Nat) (w' : World) : Prop := Mod F w w' ∧ ∃ F', Ps w' TP TL TE b F' ss' cur' ∧ ∀ k, F' k → F k ∨ w.heap.size ≤ k
theorem PsOut.same {F : Nat → Prop} (h : Ps w TP TL TE b F ss cur) (hb : Below w.heap.size w w') : PsOut w TP TL TE b F ss cur w' := ⟨Mod.of_below _ hb, F, h.below hb, fun _ h => .inl h⟩
theorem PsTo.out {F : Nat → Prop} {Fs' : Nat → Nat → Prop} (h : PsTo w TP TL TE b a cap bs Fs ss cur w' Fs') (hF : ∀ k, pfp b a ss.length Fs k → F k) : PsOut w TP TL TE b F ss cur w' :=
  ⟨h.mod.mono (fun k _ hk => hF k hk), _, h.at'.ps, fun k hk => by
    rcases h.new k hk with h1 | h1
    · exact .inl (hF k h1)
    · exact .inr h1⟩
theorem PsOut.out {F F0 : Nat → Prop} (h0 : Below w0.heap.size w0 w) (h : PsOut w TP TL TE b F ss cur w') (hF : ∀ k, F k → F0 k) : PsOut w0 TP TL TE b F0 ss cur w' := by
  obtain ⟨h1, F', h2, h3⟩ := h
  refine ⟨(Mod.of_below F0 h0).trans (h1.mono (fun k _ hk => hF k hk)) (fun k hk => .inl hk), F', h2, fun k hk => ?_⟩
  rcases h3 k hk with h4 | h4
  · exact .inl (hF k h4)
  · exact .inr (Nat.le_trans h0.size h4)
end
end Go.Proofs.Ytknklbojcnhjcaa
