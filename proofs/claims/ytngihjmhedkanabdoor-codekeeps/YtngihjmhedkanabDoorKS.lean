/- What comes back, nil or not: one word for both. -/
import Derived.Test.YtngihjmhedkanabDoorW16
namespace Go.Proofs.YtngihjmhedkanabDoor
open Go.RowKit

def toU (bs : List Nat) : List UInt8 := bs.map UInt8.ofNat

theorem string_any {a : Option Addr} {cap : Nat} {bs : List Nat} {w : World} (hB : Byt w a bs) (hb : ∀ i, bs.getD i 0 < 256) (hn : a = none → cap = 0) :
    (convert 23 9 (.slice a bs.length cap)).run Tryd.prog w = .ok (.string ⟨(toU bs).toArray⟩) w := by
  cases a with
  | none =>
    have h0 : bs = [] := by
      rcases Nat.eq_zero_or_pos bs.length with h | h
      · exact List.eq_nil_of_length_eq_zero h
      · obtain ⟨b, off, e⟩ := hB.form h
        cases e
    subst h0
    rw [hn rfl]
    exact run_convert_bytes_nil w 23 5 Tryd.underlying23 Tryd.underlying5 _ _ 9 Tryd.underlying9
  | some ad =>
    have hl : bs.length = (toU bs).length := by simp [toU]
    rw [hl]
    refine run_convert_bytes_back w 23 9 5 _ cap (toU bs) Tryd.underlying23 Tryd.underlying5 Tryd.underlying9 ?_
    intro j hj
    have hj' : j < bs.length := by omega
    obtain ⟨b, off, e, hc⟩ := hB j hj'
    cases e
    rw [addr_add, hc]
    have h9 := hb j
    rw [List.getD_eq_getElem?_getD, List.getElem?_eq_getElem hj'] at h9 ⊢
    simp only [Option.getD_some] at h9
    simp [toU]
    omega

theorem Prg.take {w : World} {a : Option Addr} {l : List Ins} (h : Prg w a l) (m : Nat) : Prg w a (l.take m) := fun i hi => by
  have hi' : i < l.length := by simp at hi; omega
  have him : i < m := by simp at hi; omega
  obtain ⟨b, off, e, hc⟩ := h i hi'
  refine ⟨b, off, e, ?_⟩
  have e2 : (l.take m).getD i default = l.getD i default := by simp [List.getD_eq_getElem?_getD, him]
  rw [e2]
  exact hc

theorem encB_bytes (l : List Ins) : ∀ i, (encB l).getD i 0 < 256 := by
  intro i
  rw [List.getD_eq_getElem?_getD]
  cases hi : (encB l)[i]? with
  | none => simp
  | some b =>
    have hm := List.mem_of_getElem? hi
    simp only [encB, List.mem_flatMap] at hm
    obtain ⟨x, _, hx⟩ := hm
    simp only [insB, List.mem_append, List.mem_cons, List.not_mem_nil, or_false, List.mem_map] at hx
    rcases hx with (rfl | rfl | rfl | rfl) | ⟨j, _, rfl⟩
    · exact b8_lt _
    · exact b8_lt _
    · exact b8_lt _
    · exact b8_lt _
    · exact byteAt_lt _ _

theorem nil_string (w : World) : (convert 23 9 (.slice none 0 0)).run Tryd.prog w = .ok (.string ⟨(toU []).toArray⟩) w :=
  string_any (a := none) (bs := []) (fun i hi => absurd hi (Nat.not_lt_zero i)) (fun i => by simp) (fun _ => rfl)

theorem own_string {w : World} {B g cap : Nat} {l : List Ins} (h : w.ownsRow B 5 1 (.slice (some ⟨g, 0, none⟩) (12 * l.length) cap) (12 * l.length) (bCells (encB l))) :
    (convert 23 9 (.slice (some ⟨g, 0, none⟩) (12 * l.length) cap)).run Tryd.prog w = .ok (.string ⟨(toU (encB l)).toArray⟩) w := by
  have hB := byt_of_owns h
  have := string_any (cap := cap) hB.1 (encB_bytes l) (fun h => by cases h)
  rw [encB_len] at this
  exact this


/-- The bytes that come back for a program; the program for bytes. -/
def encS (l : List Ins) : List Nat := if (mayL l 8).1 = 0 then encB l else []
def decS (bs : List Nat) : List Ins := if (decR bs).1 = 0 then decL bs (bs.length / 12) else []

theorem encS_len (l : List Ins) : (encS l).length ≤ 3072 := by
  unfold encS
  split
  · next h => have := may_len h; rw [encB_len]; omega
  · simp
theorem decS_len (bs : List Nat) : (decS bs).length ≤ 256 := by
  unfold decS
  split
  · next h => have := (decR_ok h).1; rw [decL_len]; omega
  · simp
theorem encS_bytes (l : List Ins) : ∀ i, (encS l).getD i 0 < 256 := by
  unfold encS
  split
  · exact encB_bytes l
  · intro i; simp

/-- A row that came back, nil or not. -/
theorem encode_one (a : Option Addr) (cap : Nat) (l : List Ins) (w : World) (hP : Prg w a l) (hF : Fld w) :
    Calls Tryd.prog 10 #[.slice a l.length cap] w fun e w' => ∃ ra c E A, e = .returned (.tuple #[.slice ra (encS l).length c, .int .i64 E, .int .i64 A]) ∧ w'.ownsRow w.heap.size 5 1 (.slice ra (encS l).length c) (encS l).length (bCells (encS l)) ∧ Below w.heap.size w w' := by
  by_cases hm : (mayL l 8).1 = 0
  · have e : encS l = encB l := by simp [encS, hm]
    rw [e, encB_len]
    refine (encode_ok a cap l w hP hF hm).mono ?_
    rintro e w' ⟨g, c, rfl, h1, h2⟩
    exact ⟨_, _, _, _, rfl, h1, h2⟩
  · have e : encS l = [] := by simp [encS, hm]
    rw [e]
    refine (encode_no a cap l w hP hF hm).mono ?_
    rintro e w' ⟨rfl, h2⟩
    exact ⟨_, _, _, _, rfl, World.ownsRow_nil _ _ _ _, h2⟩

theorem rencode_one (a : Option Addr) (cap : Nat) (l : List Ins) (w : World) (hP : Prg w a l) :
    Calls Tryd.prog 13 #[.slice a l.length cap] w fun e w' => ∃ ra c E A, e = .returned (.tuple #[.slice ra (encS l).length c, .int .i64 E, .int .i64 A]) ∧ w'.ownsRow w.heap.size 5 1 (.slice ra (encS l).length c) (encS l).length (bCells (encS l)) ∧ Below w.heap.size w w' := by
  by_cases hm : (mayL l 8).1 = 0
  · have e : encS l = encB l := by simp [encS, hm]
    rw [e, encB_len]
    refine (rencode_ok a cap l w hP hm).mono ?_
    rintro e w' ⟨g, c, rfl, h1, h2⟩
    exact ⟨_, _, _, _, rfl, h1, h2⟩
  · have e : encS l = [] := by simp [encS, hm]
    rw [e]
    refine (rencode_no a cap l w hP hm).mono ?_
    rintro e w' ⟨rfl, h2⟩
    exact ⟨_, _, _, _, rfl, World.ownsRow_nil _ _ _ _, h2⟩

theorem decPost_one {w : World} {bs : List Nat} {e : Ending} {w' : World} (h : DecPost w bs e w') :
    ∃ ra c E A, e = .returned (.tuple #[.slice ra (decS bs).length c, .int .i64 E, .int .i64 A]) ∧ w'.ownsRow w.heap.size 27 5 (.slice ra (decS bs).length c) (decS bs).length (pCells (decS bs)) ∧ Below w.heap.size w w' := by
  rcases h with ⟨hr, g, c, rfl, h1, h2⟩ | ⟨hr, rfl, h2⟩
  · have e : decS bs = decL bs (bs.length / 12) := by simp [decS, hr]
    rw [e, decL_len]
    exact ⟨_, _, _, _, rfl, h1, h2⟩
  · have e : decS bs = [] := by simp [decS, hr]
    rw [e]
    exact ⟨_, _, _, _, rfl, World.ownsRow_nil _ _ _ _, h2⟩

theorem row_byt {w : World} {B n c : Nat} {ra : Option Addr} {bs : List Nat} (h : w.ownsRow B 5 1 (.slice ra n c) n (bCells bs)) : Byt w ra bs ∧ bs.length = n ∧ n ≤ c ∧ (ra = none → c = 0) := by
  rcases h.2 with ⟨h1, h2⟩ | ⟨g, cap, cur, h1, h2, h3, h4⟩
  · simp only [Value.slice.injEq] at h1
    obtain ⟨rfl, h5, rfl⟩ := h1
    subst h2
    have h0 : bs = [] := List.eq_nil_of_length_eq_zero (by have := h.1; rw [bCells_len] at this; omega)
    subst h0
    exact ⟨fun i hi => absurd hi (Nat.not_lt_zero i), rfl, Nat.le_refl _, fun _ => rfl⟩
  · simp only [Value.slice.injEq] at h1
    obtain ⟨rfl, h5, rfl⟩ := h1
    have := byt_of_owns h
    exact ⟨this.1, this.2.1, this.2.2, fun h => by cases h⟩

theorem row_string {w : World} {B n c : Nat} {ra : Option Addr} {bs : List Nat} (h : w.ownsRow B 5 1 (.slice ra n c) n (bCells bs)) (hb : ∀ i, bs.getD i 0 < 256) :
    (convert 23 9 (.slice ra n c)).run Tryd.prog w = .ok (.string ⟨(toU bs).toArray⟩) w := by
  obtain ⟨h1, h2, h3, h4⟩ := row_byt h
  have := string_any (cap := c) h1 hb h4
  rw [h2] at this
  exact this

theorem row_prog {w : World} {B n c : Nat} {ra : Option Addr} {l : List Ins} (h : w.ownsRow B 27 5 (.slice ra n c) n (pCells l)) : Prg w ra l ∧ l.length = n := by
  rcases h.2 with ⟨h1, h2⟩ | ⟨g, cap, cur, h1, h2, h3, h4⟩
  · subst h2
    have h0 : l = [] := List.eq_nil_of_length_eq_zero (by have := h.1; rw [pCells_len] at this; omega)
    subst h0
    exact ⟨fun i hi => absurd hi (Nat.not_lt_zero i), rfl⟩
  · simp only [Value.slice.injEq] at h1
    obtain ⟨rfl, h5, rfl⟩ := h1
    exact prg_of_owns h
end Go.Proofs.YtngihjmhedkanabDoor
