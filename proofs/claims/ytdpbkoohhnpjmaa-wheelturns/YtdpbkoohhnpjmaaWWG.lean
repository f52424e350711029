/- New, Len, Due, Next, Set, Clear. -/
import Derived.Test.YtdpbkoohhnpjmaaWWF
namespace Go.Proofs.Ytdpbkoohhnpjmaa
open Go.RowKit Go.Sort Go.Shelf Go.Maps

/-- A wheel at b; its blocks are among F. -/
def Wh (w : World) (b : Nat) (F : Nat → Prop) (L : List Th) : Prop := ∃ m a c O, WhAt w b m a c L O ∧ (0 < O.length → tAt O 0 ∈ L) ∧ O.length ≤ 2 * L.length ∧ (∀ k, wfp b m a k → F k) ∧ ∀ k, F k → k < w.heap.size
theorem Wh.mod {w w' : World} {b : Nat} {F S : Nat → Prop} {L : List Th} (h : Wh w b F L) (hm : Mod S w w') (hn : ∀ k, F k → ¬ S k) : Wh w' b F L := by
  obtain ⟨m, a, c, O, h1, h2, h3, h4, h5⟩ := h
  exact ⟨m, a, c, O, h1.mod hm (fun k hk => hn k (h4 k hk)), h2, h3, h4, fun k hk => Nat.lt_of_lt_of_le (h5 k hk) hm.size⟩
theorem Wh.below {w w' : World} {b : Nat} {F : Nat → Prop} {L : List Th} (h : Wh w b F L) (hb : Below w.heap.size w w') : Wh w' b F L := h.mod (Mod.of_below (fun _ => False) hb) (fun _ _ h => h)
theorem Wh.lt {w : World} {b : Nat} {F : Nat → Prop} {L : List Th} (h : Wh w b F L) : ∀ k, F k → k < w.heap.size := by
  obtain ⟨m, a, c, O, h1, h2, h3, h4, h5⟩ := h
  exact h5
theorem Wh.good {w : World} {b : Nat} {F : Nat → Prop} {L : List Th} (h : Wh w b F L) : GoodW L := by
  obtain ⟨m, a, c, O, h1, h2, h3, h4, h5⟩ := h
  exact h1.good
/-- What a call leaves of a wheel. -/
def WhOut (w : World) (b : Nat) (F : Nat → Prop) (L' : List Th) (w' : World) : Prop := Mod F w w' ∧ ∃ F', Wh w' b F' L' ∧ ∀ k, F' k → F k ∨ w.heap.size ≤ k
theorem WhOut.same {w w' : World} {b : Nat} {F : Nat → Prop} {L : List Th} (h : Wh w b F L) (hb : Below w.heap.size w w') : WhOut w b F L w' := ⟨Mod.of_below _ hb, F, h.below hb, fun _ h => .inl h⟩
theorem WhOut.mk' {w w' : World} {b m : Nat} {a a' : Option Addr} {c' : Nat} {F : Nat → Prop} {L' O' : List Th} (hF : ∀ k, wfp b m a k → F k) (hm : Mod (wfp b m a) w w') (hW : WhAt w' b m a' c' L' O') (h1 : 0 < O'.length → tAt O' 0 ∈ L') (h2 : O'.length ≤ 2 * L'.length) (hn : ∀ k, blk a' = some k → blk a = some k ∨ w.heap.size ≤ k) : WhOut w b F L' w' :=
  ⟨hm.mono (fun k _ hk => hF k hk), wfp b m a', ⟨m, a', c', O', hW, h1, h2, fun _ h => h, hW.lt⟩, fun k hk => by
    rcases hk with rfl | rfl | hk
    · exact .inl (hF _ (.inl rfl))
    · exact .inl (hF _ (.inr (.inl rfl)))
    · rcases hn k hk with h | h
      · exact .inl (hF k (.inr (.inr h)))
      · exact .inr h⟩
theorem mod_grown {w w' : World} {row : Option Nat} (h : w.grownBy w' row) : Mod (fun k => row = some k) w w' := ⟨h.os, h.tape, h.output, h.size, fun k hk hn => h.block k hk (fun e => hn e.symm)⟩

theorem wnew_any {w : World} : Calls Try.prog 7 #[] w fun e w' => ∃ b F, e = .returned (.pointer (some ⟨b, 0, none⟩)) ∧ Wh w' b F [] ∧ (∀ k, F k → w.heap.size ≤ k) ∧ Below w.heap.size w w' := by
  have hmm : (Instr.makeMap 52 none).run Try.prog w = .ok (.map (some w.heap.size)) (w.alloc (.map #[] 0)) := rfl
  go_enter Try.func7, Try.ntmps7
  go_wp2
  go_ret
  have hb1 := below_al w (.map #[] 0)
  have hb2 := below_al (w.alloc (.map #[] 0)) (.cells #[.map (some w.heap.size), .slice none 0 0] 56)
  have hm : (w.alloc (.map #[] 0)).ownsMap Try.prog 3 thElem w.heap.size 0 (.map [] : DataW Unit) := World.ownsMap_made w Try.prog 3 thElem
  have hobj := heap_alloc_new (w.alloc (.map #[] 0)) (.cells #[.map (some w.heap.size), .slice none 0 0] 56)
  have hsz : (w.alloc (.map #[] 0)).heap.size = w.heap.size + 1 := by simp
  rw [hsz] at hobj
  refine ⟨_, wfp (w.heap.size + 1) w.heap.size none, rfl, ⟨w.heap.size, none, 0, [], ⟨⟨hobj, Row.nil, (fun k hk => by cases hk)⟩, ⟨_, hm.alloc _, MapOf.nil _⟩, by omega, (fun e => by cases e), GoodW.nil, fun k h0 hk => absurd hk (Nat.not_lt_zero _), fun t ht => absurd ht List.not_mem_nil, fun t ht => absurd ht List.not_mem_nil⟩, fun h => absurd h (Nat.not_lt_zero _), Nat.zero_le _, fun k hk => hk, fun k hk => ?_⟩, fun k hk => ?_, hb1.trans (hb2.mono (by omega))⟩
  · rcases hk with rfl | rfl | hk
    · simp
    · simp; omega
    · cases hk
  · rcases hk with rfl | rfl | hk
    · omega
    · exact Nat.le_refl _
    · cases hk

theorem wlen_any {w : World} {b : Nat} {F : Nat → Prop} {L : List Th} (h : Wh w b F L) : Calls Try.prog 12 #[.pointer (some ⟨b, 0, none⟩)] w fun e w' => e = .returned (.int .i64 (L.length : Int)) ∧ w' = w := by
  obtain ⟨m, a, c, O, h, -, -, -, -⟩ := h
  have c0 := h.hp.c0
  obtain ⟨D, m1, m2⟩ := h.map
  have hl := fun ty => m1.len Try.underlying52 ty
  rw [m2.size] at hl
  clear m1 m2 h
  go_enter Try.func12, Try.ntmps12
  go_wp2
  go_ret
  exact ⟨rfl, rfl⟩

theorem wdue_any {w : World} {b : Nat} {F : Nat → Prop} {L : List Th} (h : Wh w b F L) {id : Int} (hf : Fit64 id) : Calls Try.prog 19 #[.pointer (some ⟨b, 0, none⟩), .int .i64 id] w fun e w' => e = .returned (.tuple #[.int .i64 (dueA id L).1, .bool (dueA id L).2]) ∧ Below w.heap.size w w' := by
  obtain ⟨m, a, c, O, h, -, -, -, -⟩ := h
  have c0 := h.hp.c0
  have hlk : ∃ n2, (Instr.lookup 52 (.map (some m)) (.int .i64 id) true).run Try.prog w = .ok (.tuple #[.agg #[.int .i64 (dueA id L).1, .int .i64 n2], .bool (dueA id L).2]) w := by
    cases hs : isSet id L with
    | true =>
      obtain ⟨t, ht, rfl⟩ := isSet_iff.1 hs
      rw [dueA_some h.good ht]
      exact ⟨_, h.lookIn ht w (below_same w)⟩
    | false =>
      rw [dueA_none hs]
      exact ⟨_, h.lookOut hf hs w (below_same w)⟩
  obtain ⟨n2, hlk⟩ := hlk
  generalize (dueA id L).1 = r1 at *
  generalize (dueA id L).2 = r2 at *
  clear h hf
  go_enter Try.func19, Try.ntmps19
  go_wp2
  go_ret2
  exact ⟨rfl, below_al w _⟩

/-- What Next tells. -/
def NextA (L : List Th) (n : Int) (is : Bool) : Prop := (L = [] ∧ n = 0 ∧ is = false) ∨ ∃ t, IsMin L t ∧ n = t.1 ∧ is = true
theorem Wh.min {w : World} {b m : Nat} {a : Option Addr} {c : Nat} {L O : List Th} (h : WhAt w b m a c L O) (h1 : 0 < O.length → tAt O 0 ∈ L) (h0 : 0 < O.length) : IsMin L (tAt O 0) :=
  ⟨h1 h0, fun x hx => by
    obtain ⟨i, hi, e⟩ := mem_tAt (h.all x hx)
    rw [← e]
    exact h.heap.root i hi⟩
theorem Wh.none {w : World} {b m : Nat} {a : Option Addr} {c : Nat} {L O : List Th} (h : WhAt w b m a c L O) (h0 : O.length = 0) : L = [] := by
  have := List.eq_nil_of_length_eq_zero h0
  subst this
  exact List.eq_nil_iff_forall_not_mem.2 (fun x hx => absurd (h.all x hx) List.not_mem_nil)
theorem wnext_any {w : World} {b : Nat} {F : Nat → Prop} {L : List Th} (h : Wh w b F L) : Calls Try.prog 16 #[.pointer (some ⟨b, 0, none⟩)] w fun e w' => (∃ n is, e = .returned (.tuple #[.int .i64 n, .bool is]) ∧ NextA L n is) ∧ w' = w := by
  obtain ⟨m, a, c, O, h, h1, -, -, -⟩ := h
  have c1 := h.hp.c1
  obtain ⟨n, hn⟩ : ∃ n, Hid (O.length = n) := ⟨_, rfl⟩
  rw [hn.out] at c1
  by_cases h0 : n = 0
  · subst h0
    have HE := hd (Wh.none h hn.out)
    clear h h1
    go_enter Try.func16, Try.ntmps16
    go_wp2
    go_ret2
    exact ⟨⟨_, _, rfl, .inl ⟨HE.out, rfl, rfl⟩⟩, rfl⟩
  · have hpos : 0 < n := by omega
    obtain ⟨g, rfl, x0, x1⟩ := row_t h.hp.row 0 (by rw [hn.out]; omega)
    simp only [Nat.zero_mul, Nat.zero_add] at x0 x1
    have HE := hd (Wh.min h h1 (by rw [hn.out]; omega))
    generalize tAt O 0 = t at *
    have hne : ((n : Int) == 0) = false := by simp; omega
    clear h h1 h0
    go_enter Try.func16, Try.ntmps16
    go_wp2
    go_ret2
    exact ⟨⟨_, _, rfl, .inr ⟨t, HE.out, rfl, rfl⟩⟩, rfl⟩
end Go.Proofs.Ytdpbkoohhnpjmaa
