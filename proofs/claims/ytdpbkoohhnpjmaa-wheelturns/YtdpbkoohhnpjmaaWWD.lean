/- A wheel in memory; counts. -/
import Derived.Test.YtdpbkoohhnpjmaaWW8
namespace Go.Proofs.Ytdpbkoohhnpjmaa
open Go.RowKit Go.Sort Go.Shelf Go.Maps

/-- A wheel at the block b: its map at m, its order at a; L what is set, O what stands in order. -/
structure WhAt (w : World) (b m : Nat) (a : Option Addr) (c : Nat) (L O : List Th) : Prop where
  hp : HpAt w b m a c O
  map : ∃ D, w.ownsMap Try.prog 3 thElem m L.length D ∧ MapOf thD D L
  mb : m ≠ b
  ma : blk a ≠ some m
  good : GoodW L
  heap : Heap (tAt O) O.length
  all : ∀ t ∈ L, t ∈ O
  fit : ∀ t ∈ O, FitT t
/-- Its blocks. -/
def wfp (b m : Nat) (a : Option Addr) (k : Nat) : Prop := k = b ∨ k = m ∨ blk a = some k
section
variable {w w' : World} {b m : Nat} {a : Option Addr} {c : Nat} {L O : List Th}
theorem owns_kept {W W' : World} {R : Value → Option (DataW Unit × List MemPlace)} {k n : Nat} {T : TypeId} {D : DataW Unit} (h : W.ownsMap Try.prog T R k n D) (e : W'.heap[k]? = W.heap[k]?) : W'.ownsMap Try.prog T R k n D := by
  unfold World.ownsMap at *
  rw [e]
  exact h
/-- No more entries than there are. -/
theorem owns_tight {W : World} {R : Value → Option (DataW Unit × List MemPlace)} {k n : Nat} {T : TypeId} {D : DataW Unit} (h : W.ownsMap Try.prog T R k n D) : W.ownsMap Try.prog T R k (Maps.size D) D := by
  obtain ⟨es, clock, hb, F, hs, hD⟩ := h
  exact ⟨es, clock, hb, F, by subst hD; simp [Maps.size, length_sorted], hD⟩
theorem WhAt.mlt (h : WhAt w b m a c L O) : m < w.heap.size := by
  obtain ⟨D, h1, _⟩ := h.map
  exact h1.lt
theorem WhAt.lt (h : WhAt w b m a c L O) : ∀ k, wfp b m a k → k < w.heap.size := fun k hk => by
  rcases hk with rfl | rfl | hk
  · exact h.hp.blt
  · exact h.mlt
  · exact h.hp.lt k hk
theorem WhAt.mod {S : Nat → Prop} (h : WhAt w b m a c L O) (hm : Mod S w w') (hn : ∀ k, wfp b m a k → ¬ S k) : WhAt w' b m a c L O := by
  obtain ⟨D, h1, h2⟩ := h.map
  exact ⟨h.hp.mod hm (hn b (.inl rfl)) (fun k hk => hn k (.inr (.inr hk))), ⟨D, owns_kept h1 (hm.block m h.mlt (hn m (.inr (.inl rfl)))), h2⟩, h.mb, h.ma, h.good, h.heap, h.all, h.fit⟩
theorem WhAt.below (h : WhAt w b m a c L O) (hb : Below w.heap.size w w') : WhAt w' b m a c L O := h.mod (Mod.of_below (fun _ => False) hb) (fun _ _ h => h)
/-- Another order, in the same memory or new memory. -/
theorem WhAt.order {a' : Option Addr} {c' : Nat} {O' : List Th} (h : WhAt w b m a c L O) (hT : HpTo w b m a w' a' c' O') (hh : Heap (tAt O') O'.length) (hall : ∀ t ∈ L, t ∈ O') (hfit : ∀ t ∈ O', FitT t) : WhAt w' b m a' c' L O' := by
  obtain ⟨D, h1, h2⟩ := h.map
  refine ⟨hT.hp, ⟨D, owns_kept h1 (hT.mod.block m h.mlt (fun e => ?_)), h2⟩, h.mb, fun e => ?_, h.good, hh, hall, hfit⟩
  · rcases e with e | e
    · exact h.mb e
    · exact h.ma e
  · rcases hT.new m e with h3 | h3
    · exact h.ma h3
    · have := h.mlt
      omega
end

theorem zeroT (w : World) : (zeroValue 60).run Try.prog w = .ok (.agg #[.int .i64 0, .int .i64 0]) w := Try.zeroValue60 w
theorem FitT.id64 {t : Th} (h : FitT t) : Fit64 t.2 := ⟨by have := h.2.1; omega, h.2.2⟩
/-- What is set, looked up. -/
theorem look_in {W : World} {m n : Nat} {D : DataW Unit} {L : List Th} (ho : W.ownsMap Try.prog 3 thElem m n D) (hM : MapOf thD D L) (hG : GoodW L) {t : Th} (ht : t ∈ L) :
    (Instr.lookup 52 (.map (some m)) (.int .i64 t.2) true).run Try.prog W = .ok (.tuple #[.agg #[.int .i64 t.1, .int .i64 t.2], .bool true]) W := by
  obtain ⟨v, ps, h1, h2⟩ := ho.look_ok lawInt Try.underlying52 (zeroT W) (thElem_mk (0, 0)) (key_int (hG.fit t ht).id64)
  rw [hM.at' t ht] at h2
  obtain ⟨s, rfl, e⟩ := thElem_inv h2
  obtain rfl := thD_inj (Prod.mk.inj e).1
  rw [h1, hM.has, isSet_iff.2 ⟨t, ht, rfl⟩]
  rfl
theorem look_out {W : World} {m n : Nat} {D : DataW Unit} {L : List Th} (ho : W.ownsMap Try.prog 3 thElem m n D) (hM : MapOf thD D L) {id : Int} (hf : Fit64 id) (hs : isSet id L = false) :
    (Instr.lookup 52 (.map (some m)) (.int .i64 id) true).run Try.prog W = .ok (.tuple #[.agg #[.int .i64 0, .int .i64 0], .bool false]) W := by
  obtain ⟨v, ps, h1, h2⟩ := ho.look_ok lawInt Try.underlying52 (zeroT W) (thElem_mk (0, 0)) (key_int hf)
  rw [atKey_of_not_has (by rw [hM.has]; exact hs)] at h2
  obtain ⟨s, rfl, e⟩ := thElem_inv h2
  obtain rfl := thD_inj (Prod.mk.inj e).1
  rw [h1, hM.has, hs]
  rfl
theorem WhAt.lookIn {w : World} {b m : Nat} {a : Option Addr} {c : Nat} {L O : List Th} (h : WhAt w b m a c L O) {t : Th} (ht : t ∈ L) (W : World) (hb : Below w.heap.size w W) : (Instr.lookup 52 (.map (some m)) (.int .i64 t.2) true).run Try.prog W = .ok (.tuple #[.agg #[.int .i64 t.1, .int .i64 t.2], .bool true]) W := by
  obtain ⟨D, h1, h2⟩ := (h.below hb).map
  exact look_in h1 h2 h.good ht
theorem WhAt.lookOut {w : World} {b m : Nat} {a : Option Addr} {c : Nat} {L O : List Th} (h : WhAt w b m a c L O) {id : Int} (hf : Fit64 id) (hs : isSet id L = false) (W : World) (hb : Below w.heap.size w W) : (Instr.lookup 52 (.map (some m)) (.int .i64 id) true).run Try.prog W = .ok (.tuple #[.agg #[.int .i64 0, .int .i64 0], .bool false]) W := by
  obtain ⟨D, h1, h2⟩ := (h.below hb).map
  exact look_out h1 h2 hf hs

/-- How the look-up of a thing comes out, and whether it counts. -/
theorem WhAt.counts {w : World} {b m : Nat} {a : Option Addr} {c : Nat} {L O : List Th} (h : WhAt w b m a c L O) {t : Th} (ht : FitT t) :
    ∃ (n1 n2 : Int) (is : Bool), (is && (decide (n1 = t.1) && decide (n2 = t.2))) = decide (t ∈ L) ∧ ∀ W : World, Below w.heap.size w W → (Instr.lookup 52 (.map (some m)) (.int .i64 t.2) true).run Try.prog W = .ok (.tuple #[.agg #[.int .i64 n1, .int .i64 n2], .bool is]) W := by
  cases hs : isSet t.2 L with
  | true =>
    obtain ⟨s, hs', e⟩ := isSet_iff.1 hs
    refine ⟨s.1, s.2, true, ?_, fun W hb => by rw [← e]; exact h.lookIn hs' W hb⟩
    by_cases hst : s = t
    · subst hst; simp [hs']
    · have h1 : ¬ t ∈ L := fun ht' => hst (h.good.uniq hs' ht' e)
      have h2 : ¬ s.1 = t.1 := fun e1 => hst (Prod.ext e1 e)
      simp [h1, h2]
  | false =>
    refine ⟨0, 0, false, ?_, fun W hb => h.lookOut ht.id64 hs W hb⟩
    have h1 : ¬ t ∈ L := fun ht' => by
      have := isSet_iff.2 ⟨t, ht', rfl⟩
      rw [hs] at this
      cases this
    simp [h1]
end Go.Proofs.Ytdpbkoohhnpjmaa
