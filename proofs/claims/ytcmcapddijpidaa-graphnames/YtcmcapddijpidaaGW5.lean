/- The keys of a map, sorted: maps.Keys, slices.Sorted. -/
import Derived.Test.YtcmcapddijpidaaGW4
import Derived.Test.YtcmcapddijpidaaGShelf
namespace Go.Proofs.Ytcmcapddijpidaa
open Go.RowKit Go.Maps Go.Sort Go.Shelf

theorem keys_has {H : Type} {P : Program} {k : TypeId} {R : Value → Option (DataW H × List MemPlace)} {w : World} {b n : Nat} {D : DataW H} (hown : w.ownsMap P k R b n D) (K : Keyed P k) (hk : P.underlying k = some (.int .i64)) :
    (intKeys D).Nodup ∧ ∀ x, x ∈ intKeys D ↔ has D (.int .i64 x) = true := by
  obtain ⟨es, hD, hp, _⟩ := hown.entries K
  obtain ⟨es', hD', hko⟩ := hown.keysOf
  obtain rfl : es = es' := by rw [hD] at hD'; simpa using hD'
  subst hD
  have hk : ∀ p ∈ es, ∃ x, p.1 = .int .i64 x := fun p hp => by obtain ⟨v, hv⟩ := hko p hp; obtain ⟨x, _, hx, _⟩ := Maps.keyOf_i64 hk hv; exact ⟨x, hx⟩
  refine ⟨?_, fun x => ?_⟩
  · show (es.map fun p => Go.intOf p.1).Nodup
    refine List.pairwise_map.2 (hp.imp_of_mem fun {p q} hp' hq' hne e => hne ?_)
    obtain ⟨a, ha⟩ := hk p hp'
    obtain ⟨b, hb⟩ := hk q hq'
    rw [ha, hb] at e ⊢
    exact congrArg _ e
  · rw [has_eq, List.any_eq_true]
    show x ∈ es.map (fun p => Go.intOf p.1) ↔ _
    rw [List.mem_map]
    constructor
    · rintro ⟨p, hp', rfl⟩
      obtain ⟨a, ha⟩ := hk p hp'
      exact ⟨p, hp', by rw [ha]; simp [Lit.sameKey, Go.intOf]⟩
    · rintro ⟨p, hp', hs⟩
      obtain ⟨a, ha⟩ := hk p hp'
      rw [ha] at hs
      exact ⟨p, hp', by rw [ha]; simpa [Lit.sameKey, Go.intOf] using hs⟩
/-- Lists without doubles, sorted: strictly rising. -/
theorem sorted_strict {l K : List Int} (hn : l.Nodup) (hp : K.Perm l) (hs : K.Pairwise (fun a b => leI a b = true)) : K.Pairwise (· < ·) := by
  have h1 := (List.Perm.nodup_iff hp).2 hn
  unfold List.Nodup at h1
  refine (h1.and hs).imp (fun {a b} h => ?_)
  have := h.2
  simp only [leI, decide_eq_true_eq] at this
  have := h.1
  omega
theorem sort_rises (l : List Int) : (l.mergeSort leI).Pairwise (fun a b => leI a b = true) := by
  have tr : ∀ a b c : Int, leI a b = true → leI b c = true → leI a c = true := fun a b c h1 h2 => by simp only [leI, decide_eq_true_eq] at *; exact Int.le_trans h1 h2
  have tt : ∀ a b : Int, (leI a b || leI b a) = true := fun a b => by simp only [leI, Bool.or_eq_true, decide_eq_true_eq]; exact Int.le_total a b
  exact List.pairwise_mergeSort tr tt l
theorem keys_of_perm {f : Fn} {D : DataW Unit} (hk : (intKeys D).Nodup ∧ ∀ x, x ∈ intKeys D ↔ has D (.int .i64 x) = true) (hf : ∀ p, has D (.int .i64 p) = (f p).isSome) {ss : List Int} (hp : ss.Perm (intKeys D)) : Keys f (ss.mergeSort leI) := by
  have h1 := (List.mergeSort_perm ss leI).trans hp
  refine ⟨sorted_strict hk.1 h1 (sort_rises ss), fun x => ?_⟩
  rw [h1.mem_iff, hk.2, hf]

/-- slices.Sort's two contracts at this dump. -/
theorem sortsA (m : Nat) : AnyZI.SortsIn Try.prog sortedA_ren Fence.wide m :=
  ⟨fun blk off cap ss W hH hblk hsz => callsIn_wide.2 (AnyM.slices_Sort_int sortA blk off cap ss W hH hblk hsz),
   fun p cap W => callsIn_wide.2 (AnyM.slices_Sort_int_none sortA p cap W)⟩
theorem keys_any (mb : Nat) (W : World) : Calls Try.prog 15 #[.map (some mb)] W fun e w' => e = .returned (.func (.func 19) #[] #[.pointer (some ⟨W.heap.size, 0, none⟩)]) ∧ w' = W.alloc (.cells #[.map (some mb)] 29) :=
  (callsIn_wide (n := 6)).1 (AnyZI.keys_in keysA Fence.wide 6 trivial rfl (some mb) W)
theorem own_row {w : World} {base : Nat} {v : Value} {n : Nat} {xs : List Value} (h : w.ownsRow base 3 1 v n xs) : ∃ a c, v = .slice a n c ∧ Row w 3 1 a n c xs ∧ ∀ k, blk a = some k → base ≤ k := by
  obtain ⟨h1, ⟨rfl, rfl⟩ | ⟨g, cap, cur, rfl, h2, h3, h4, h5, h6, h7⟩⟩ := h
  · exact ⟨none, 0, rfl, ⟨h1, Nat.le_refl _, Nat.zero_le _, .inl ⟨rfl, rfl⟩⟩, fun k hk => by cases hk⟩
  · exact ⟨_, cap, rfl, ⟨h1, h4, h5, .inr ⟨g, cur, rfl, h3, by omega, h7⟩⟩, fun k hk => by cases hk; exact h2⟩
/-- What the sorted keys come to. -/
def KeysOut (w : World) (f : Fn) (x : Ending) (w' : World) : Prop := ∃ K, Keys f K ∧ NewL w K x w'
theorem sorted_any {w : World} {m c : Nat} {f : Fn} (hM : MapAt w m f c) (hc : c ≤ 6000000) :
    Calls Try.prog 14 #[.func (.func 19) #[] #[.pointer (some ⟨w.heap.size, 0, none⟩)]] (w.alloc (.cells #[.map (some m)] 29)) fun e w' => KeysOut (w.alloc (.cells #[.map (some m)] 29)) f e w' := by
  obtain ⟨D, m1, m2, m3, m4, m5⟩ := hM.ex
  have hk := keys_has m1 lawInt Try.underlying3
  have hbl := m1.lt
  have hown : (w.alloc (.cells #[.map (some m)] 29)).ownsMap Try.prog 3 (plainElem Try.prog 3) m c D := owns_kept m1 ((below_al w _).block m hbl)
  have hseq : SeqGives Fence.wide 3 Try.prog 19 #[.pointer (some ⟨w.heap.size, 0, none⟩)] encZ (fun ss => ss.Perm (intKeys D)) (Maps.size D) (w.alloc (.cells #[.map (some m)] 29)) :=
    AnyZI.keys_gives (ρ := keysA_ren) { keysA with } Fence.wide _ trivial rfl (by omega) w.heap.size m c D _ (by simp) (by simp) hown
  have cS := AnyZI.sorted_in sortedA Fence.wide 6 trivial trivial trivial trivial rfl (by omega) (sortsA _) (enters_of Try.func18 (by kernel_rfl) rfl) 19 #[.pointer (some ⟨w.heap.size, 0, none⟩)] trivial (enters_of Try.func19 (by kernel_rfl) rfl) _ _ (show Maps.size D ≤ maxLen by unfold maxLen; omega) (by omega) _ hseq
  refine ((callsIn_wide (n := 6)).1 cS).mono ?_
  rintro e w' ⟨v, ss, rfl, hS, hrow, hnil, hb⟩
  obtain ⟨a, cp, rfl, r1, r2⟩ := own_row hrow
  refine ⟨_, keys_of_perm hk m5 hS, a, cp, by rw [(List.mergeSort_perm ss leI).length_eq], hb, ?_, r2⟩
  rw [(List.mergeSort_perm ss leI).length_eq]
  exact r1
end Go.Proofs.Ytcmcapddijpidaa
