/- The document's side: Lay. -/
import Derived.Test.YtdihbbpndijdoaaKR6
namespace Go.Proofs.Ytdihbbpndijdoaa
open Go.RowKit Go.Maps

theorem MapAt.look1 {w : World} {m : Nat} {f : Int → Option Int} {n : Nat} (h : MapAt w m f n) {p : Int} (hi : Fit64 p) : (Instr.lookup 57 (.map (some m)) (.int .i64 p) false).run Try.prog w = .ok (.int .i64 ((f p).getD 0)) w := by
  obtain ⟨D, m1, m2, m3, m4, m5⟩ := h.ex
  obtain ⟨c, h1, h2, _⟩ := m1.lookup_int lawInt Try.underlying57 Try.underlying3 (zeroI w) (key_int hi)
  rw [h1]
  cases hs : f p with
  | some k =>
    rw [m4 p k hs] at h2
    rw [← (Lit.int.inj (DataW.lit.inj h2)).2]
    rfl
  | none =>
    rw [atKey_of_not_has (by rw [m5, hs]; rfl)] at h2
    rw [← (Lit.int.inj (DataW.lit.inj h2)).2]
    rfl

theorem rlay_many {w : World} {a1 a2 : Option Addr} {n1 c1 n2 c2 : Nat} (h : 8 < n1 ∨ 8 < n2) : Calls Try.prog 13 #[.slice a1 n1 c1, .slice a2 n2 c2] w fun e w' => e = .returned (.tuple #[.pointer none, .int .i64 3]) ∧ w' = w := by
  by_cases h1 : 8 < n1
  · have h1' : decide (8 < n1) = true := by simpa using h1
    clear h
    go_enter Try.func13, Try.ntmps13
    go_wp2_with fail
    go_ret2
    exact ⟨rfl, rfl⟩
  · have h2 : 8 < n2 := by omega
    have h1' : n1 ≤ 8 := by omega
    clear h h1
    go_enter Try.func13, Try.ntmps13
    go_wp2_with fail
    go_ret2
    exact ⟨rfl, rfl⟩
theorem rlay_uneven {w : World} {a1 a2 : Option Addr} {n1 c1 n2 c2 : Nat} (h1 : n1 ≤ 8) (h2 : n2 ≤ 8) (h3 : n1 ≠ n2) : Calls Try.prog 13 #[.slice a1 n1 c1, .slice a2 n2 c2] w fun e w' => e = .returned (.tuple #[.pointer none, .int .i64 4]) ∧ w' = w := by
  have h1' : decide (8 < n1) = false := by simpa using h1
  have h2' : decide (8 < n2) = false := by simpa using h2
  have h3' : ((n1 : Int) != (n2 : Int)) = true := by simp; omega
  clear h3
  go_enter Try.func13, Try.ntmps13
  go_wp2_with fail
  go_ret2
  exact ⟨rfl, rfl⟩

/-- Whom the document has met. -/
def metF (qs : Qs) (d : List Int) (x : Int) : Option Int := if (wt qs x).isSome = true ∨ x ∈ d then some 1 else none
theorem metF_get {qs : Qs} {d : List Int} {x : Int} : (metF qs d x).getD 0 = if (wt qs x).isSome = true ∨ x ∈ d then 1 else 0 := by
  unfold metF
  split <;> rfl
theorem wt_app {qs : Qs} {q : List Int} {x : Int} : (wt (qs ++ [q]) x).isSome = true ↔ (wt qs x).isSome = true ∨ x ∈ q := by
  have e : ∀ l : Qs, (wt l x).isSome = true ↔ ∃ i, x ∈ qAt l i := fun l => by
    constructor
    · intro h
      apply Classical.byContradiction
      intro hn
      have := wt_none.2 (fun i hi => hn ⟨i, hi⟩)
      rw [this] at h
      cases h
    · rintro ⟨i, hi⟩
      cases hw : wt l x with
      | none => exact absurd hi (wt_none.1 hw i)
      | some k => rfl
  rw [e, e]
  constructor
  · rintro ⟨i, hi⟩
    rcases mem_app.1 hi with h | h
    · exact .inl ⟨i, h⟩
    · exact .inr h.1
  · rintro (⟨i, hi⟩ | h)
    · exact ⟨i, mem_app.2 (.inl hi)⟩
    · exact ⟨_, mem_app.2 (.inr ⟨h, rfl⟩)⟩

/-- Within the document's Lay: the first i locks are laid, the first k of the next are looked at. -/
structure RLI (w wr : World) (b mm : Nat) (os : List Int) (qs : Qs) (i k : Nat) : Prop where
  ex : ∃ ao co aq cq es, RI w wr b ao co aq cq (os.take i) es ∧ qsOf es = qs.take i ∧ ¬ lfp b ao aq es mm
  map : MapAt wr mm (metF (qs.take i) ((qAt qs i).take k)) (total (qs.take i) + k)
  mge : w.heap.size ≤ mm
/-- What the document's Lay answers, and leaves. -/
def RLayOut (w : World) (os : List Int) (qs : Qs) (R : Bool) (e : Ending) (w' : World) : Prop :=
  Below w.heap.size w w' ∧ ((R = false ∧ e = .returned (.tuple #[.pointer none, .int .i64 4])) ∨ (R = true ∧ ∃ b F, e = .returned (.tuple #[.pointer (some ⟨b, 0, none⟩), .int .i64 0]) ∧ Rk w' b F os qs ∧ ∀ k, F k → w.heap.size ≤ k))
theorem RLI.bel {w wr : World} {b mm : Nat} {os : List Int} {qs : Qs} {i k : Nat} (h : RLI w wr b mm os qs i k) : Below w.heap.size w wr := by
  obtain ⟨ao, co, aq, cq, es, h1, _⟩ := h.ex
  exact h1.2.2
theorem RLI.start {w : World} {os : List Int} {qs : Qs} : RLI w ((w.alloc (.cells #[.slice none 0 0, .slice none 0 0] 54)).alloc (.map #[] 0)) w.heap.size (w.heap.size + 1) os qs 0 0 := by
  have h1 := RI.new w
  have hsz : (w.alloc (.cells #[.slice none 0 0, .slice none 0 0] 54)).heap.size = w.heap.size + 1 := by simp
  have hm := MapAt.new (w.alloc (.cells #[.slice none 0 0, .slice none 0 0] 54))
  rw [hsz] at hm
  refine ⟨⟨none, 0, none, 0, [], h1.below (below_al _ _), rfl, fun e => ?_⟩, ?_, by omega⟩
  · rcases e with e | e | e | ⟨i, hi, e⟩
    · omega
    · cases e
    · cases e
    · simp at hi
  · exact hm.congr (fun p => by unfold metF; simp [wt])
/-- One more of who waits is met. -/
theorem RLI.meet {w wr : World} {b mm : Nat} {os : List Int} {qs : Qs} {i k : Nat} (h : RLI w wr b mm os qs i k) {x : Int} (hk : k < (qAt qs i).length) (hx : (qAt qs i).getD k 0 = x) (hf : Fit64 x) (hm : metF (qs.take i) ((qAt qs i).take k) x = none) (hn : total (qs.take i) + k < 6000000000000) :
    ∃ w2, (Instr.mapUpdate 57 (.map (some mm)) (.int .i64 x) (.int .i64 1)).run Try.prog wr = .ok () w2 ∧ RLI w w2 b mm os qs i (k + 1) := by
  obtain ⟨w2, h1, h2, h3⟩ := h.map.store (p := x) (v := 1) hf ⟨by decide, by decide⟩ hn
  rw [hm] at h3
  simp only [Option.isSome_none, Bool.false_eq_true, if_false] at h3
  obtain ⟨ao, co, aq, cq, es, r1, r2, r3⟩ := h.ex
  refine ⟨w2, h1, ⟨ao, co, aq, cq, es, ⟨r1.1.mod h2 (fun j hj e => r3 (by rw [← e]; exact hj)), r1.2.1, r1.2.2.trans (h2.below r1.2.2.size (fun j _ e => by rw [e]; exact h.mge))⟩, r2, r3⟩, ?_, h.mge⟩
  have h4 := h3.congr (f' := metF (qs.take i) ((qAt qs i).take (k + 1))) (fun y => by
    have e : y ∈ (qAt qs i).take (k + 1) ↔ y ∈ (qAt qs i).take k ∨ y = x := by rw [take_mem hk, hx]
    by_cases ey : y = x
    · rw [if_pos ey]
      unfold metF
      rw [if_pos (.inr (e.2 (.inr ey)))]
    · rw [if_neg ey]
      unfold metF
      by_cases e2 : (wt (qs.take i) y).isSome = true ∨ y ∈ (qAt qs i).take k
      · rw [if_pos e2, if_pos (by rcases e2 with h | h; exact .inl h; exact .inr (e.2 (.inl h)))]
      · rw [if_neg e2, if_neg (fun h => e2 (by
          rcases h with h | h
          · exact .inl h
          · rcases e.1 h with h | h
            · exact .inr h
            · exact absurd h ey))])
  exact h4
/-- The next lock is laid. -/
theorem RLI.next {w wr wz : World} {b mm : Nat} {os : List Int} {qs : Qs} {i : Nat} (h : RLI w wr b mm os qs i (qAt qs i).length) (hi : i < os.length) (hiq : i < qs.length) {ao' aq' : Option Addr} {co' cq' : Nat} {es' : List Qe} (hI : RI w wz b ao' co' aq' cq' (os.take i ++ [oAt os i]) es') (hq : qsOf es' = qs.take i ++ [qAt qs i]) {S : Nat → Prop} (hM : Mod S wr wz) (hS : ¬ S mm) (hmm : ¬ lfp b ao' aq' es' mm) : RLI w wz b mm os qs (i + 1) 0 := by
  refine ⟨⟨ao', co', aq', cq', es', by rw [take_oAt hi]; exact hI, by rw [take_qAt hiq]; exact hq, hmm⟩, ?_, h.mge⟩
  rw [take_qAt hiq, total_app]
  have := h.map.mod hM hS
  rw [List.take_of_length_le (Nat.le_refl _)] at this
  refine this.congr (fun y => ?_)
  unfold metF
  rw [List.take_zero]
  by_cases e : (wt (qs.take i) y).isSome = true ∨ y ∈ qAt qs i
  · rw [if_pos e, if_pos (.inl (wt_app.2 e))]
  · rw [if_neg e, if_neg (by
      rintro (h | h)
      · exact e (wt_app.1 h)
      · cases h)]
end Go.Proofs.Ytdihbbpndijdoaa
