/- The map of a wheel; maps.Values over it. -/
import Derived.Test.YtdpbkoohhnpjmaaWW7
import Derived.Maps.OwnSet
import Derived.RangeFuncNested
import Derived.RangeFuncBound
import Derived.RangeFuncCalls
import Derived.RangeFuncLeaves
import Derived.Shelf.RegionOpen
import Derived.OwnWalkIn
import Derived.TacticsInMore
import Derived.LoopNIn
import Derived.LoopIn
import Derived.Sort.MapsRangeIn
namespace Go.Proofs.Ytdpbkoohhnpjmaa
open Go.RowKit Go.Sort Go.Shelf Go.Maps

attribute [local go_sem] Oper.semAt_some

theorem lawInt : Keyed Try.prog 3 := int_keyed Try.underlying3
def Fit64 (x : Int) : Prop := -9223372036854775808 ≤ x ∧ x ≤ 9223372036854775807
theorem key_int {x : Int} (h : Fit64 x) : keyOf Try.prog 3 (.int .i64 x) = some (.int .i64 x) := keyOf_int_mk Try.underlying3 (WalkArith.wf_i64 h)

/-- How a thing reads. -/
def thD (t : Th) : DataW Unit := .agg [.lit (.int .i64 t.1), .lit (.int .i64 t.2)]
def thV (t : Th) : Value := .agg #[.int .i64 t.1, .int .i64 t.2]
def thElem : Value → Option (DataW Unit × List MemPlace)
  | .agg cs => match cs.toList with
    | [.int .i64 a, .int .i64 b] => some (thD (a, b), [])
    | _ => none
  | _ => none
theorem thElem_mk (t : Th) : thElem (thV t) = some (thD t, []) := rfl
theorem thElem_inv {v : Value} {z : DataW Unit × List MemPlace} (h : thElem v = some z) : ∃ t, v = thV t ∧ z = (thD t, []) := by
  unfold thElem at h
  split at h
  · rename_i cs
    split at h
    · rename_i a b e
      refine ⟨(a, b), ?_, (Option.some.inj h).symm⟩
      unfold thV
      congr 1
      exact Array.toList_inj.1 e
    · cases h
  · cases h
theorem thD_inj {s t : Th} (h : thD s = thD t) : s = t := by
  unfold thD at h
  injection h with h
  injection h with h1 h2
  injection h2 with h2 _
  injection h1 with h1
  injection h1 with _ h1
  injection h2 with h2
  injection h2 with _ h2
  exact Prod.ext h1 h2
theorem thV_inj {s t : Th} (h : thV s = thV t) : s = t := by
  have := thElem_mk s
  rw [h, thElem_mk] at this
  exact (thD_inj (Prod.mk.inj (Option.some.inj this)).1).symm

/-- The datum of a map of what is set; val: what stands at a thing's number. -/
structure MapOf (val : Th → DataW Unit) (D : DataW Unit) (L : List Th) : Prop where
  tidy : Tidy D
  size : Maps.size D = L.length
  at' : ∀ t ∈ L, ∀ zd, D.atKey (.int .i64 t.2) zd = val t
  has : ∀ id, Maps.has D (.int .i64 id) = isSet id L
theorem MapOf.nil (val : Th → DataW Unit) : MapOf val (.map []) [] := ⟨tidy_empty, rfl, fun _ h => absurd h List.not_mem_nil, fun _ => rfl⟩
theorem isSet_clr {id i : Int} {L : List Th} : isSet i (clr id L) = (isSet i L && i != id) := by
  rw [Bool.eq_iff_iff, Bool.and_eq_true, isSet_iff, isSet_iff]
  constructor
  · rintro ⟨t, ht, rfl⟩
    have := clr_mem.1 ht
    exact ⟨⟨t, this.1, rfl⟩, by simpa using this.2⟩
  · rintro ⟨⟨t, ht, rfl⟩, h2⟩
    exact ⟨t, clr_mem.2 ⟨ht, by simpa using h2⟩, rfl⟩
theorem isSet_set {id due i : Int} {L : List Th} : isSet i (setA id due L) = (isSet i L || i == id) := by
  have : isSet i (setA id due L) = (isSet i (clr id L) || (id == i)) := by simp [isSet, setA]
  rw [this, isSet_clr]
  by_cases h : i = id
  · subst h; simp
  · have h1 : (i != id) = true := bne_iff_ne.2 h
    have h2 : (i == id) = false := beq_eq_false_iff_ne.2 h
    have h3 : (id == i) = false := beq_eq_false_iff_ne.2 (fun e => h e.symm)
    rw [h1, h2, h3, Bool.and_true]
theorem set_len {L : List Th} (h : GoodW L) (id due : Int) : (setA id due L).length = if isSet id L = true then L.length else L.length + 1 := by
  unfold setA
  rw [List.length_append, List.length_singleton]
  cases hs : isSet id L with
  | true => rw [clr_len h hs]; rfl
  | false => rw [clr_none hs]; rfl
theorem MapOf.put {val : Th → DataW Unit} {D : DataW Unit} {L : List Th} (h : MapOf val D L) (hG : GoodW L) (id due : Int) : MapOf val (D.put (.int .i64 id) (val (due, id))) (setA id due L) := by
  refine ⟨h.tidy.put (k := .int .i64 id) trivial _, ?_, fun t ht zd => ?_, fun i => ?_⟩
  · rw [size_put (k := .int .i64 id) h.tidy, set_len hG, h.has, h.size]
  · unfold setA at ht
    rcases List.mem_append.1 ht with h1 | h1
    · have := clr_mem.1 h1
      rw [atKey_put_other (by simpa using this.2)]
      exact h.at' t this.1 zd
    · simp at h1
      subst h1
      exact atKey_put_same (k := .int .i64 id) h.tidy.isMap trivial _ _
  · rw [isSet_set]
    by_cases e : i = id
    · subst e
      rw [has_put_same (k := .int .i64 i) h.tidy.isMap trivial]
      simp
    · rw [has_put_other (by simpa using e), h.has]
      simp [e]
theorem MapOf.del {val : Th → DataW Unit} {D : DataW Unit} {L : List Th} (h : MapOf val D L) (hG : GoodW L) (id : Int) : MapOf val (D.del (.int .i64 id)) (clr id L) := by
  refine ⟨h.tidy.del _, ?_, fun t ht zd => ?_, fun i => ?_⟩
  · have hs := size_del (k := .int .i64 id) h.tidy
    rw [h.has, h.size] at hs
    cases e : isSet id L with
    | true =>
      rw [e] at hs
      have := clr_len hG e
      simp at hs
      omega
    | false =>
      rw [e] at hs
      rw [clr_none e]
      simpa using hs
  · have := clr_mem.1 ht
    rw [atKey_del_other (by simpa using this.2)]
    exact h.at' t this.1 zd
  · rw [isSet_clr]
    by_cases e : i = id
    · subst e
      rw [has_del_same]
      simp
    · rw [has_del_other (by simpa using e), h.has]
      simp [e]
end Go.Proofs.Ytdpbkoohhnpjmaa
