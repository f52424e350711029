/- Rows that grow by one thing at a time, each of which lies where it lies. -/
import Derived.Test.YtjbmljheepomnaaVQ1
namespace Go.Proofs.Ytjbmljheepomnaa
open Go.RowKit

/-- One more of a row of whatever, as append leaves it. -/
theorem push_big {T e : TypeId} {z : Value} {size bytes : Nat} (hu : Try.prog.underlying T = some (.slice e)) (hinfo : (Try.prog.info? e).map (fun i => (i.zero, i.size, i.bytes)) = some (some z, size, bytes)) (hzs : z.cells.size = size) (hb64 : bytes ≤ 136)
    {w : World} {a : Option Addr} {n c : Nat} {xs : List Value} (hR : Row w e size a n c xs) (hn : n ≤ 1000000000) (us : List Value) (hus : us.length = size) (h1 : ∀ u ∈ us, u.oneCell' = true) :
    ∃ a' c' w', (∀ ty, (Builtin.append_ #[T, T] ty #[.slice a n c, .slice (some ⟨w.heap.size, 0, none⟩) 1 1]).run Try.prog (w.alloc (.cells us.toArray e)) = .ok (.slice a' (n + 1) c') w') ∧
      Row w' e size a' (n + 1) c' (xs ++ us) ∧ Mod (fun k => blk a = some k) w w' ∧ (∀ k, blk a' = some k → blk a = some k ∨ w.heap.size ≤ k) := by
  obtain ⟨i, k1, k2, k3, k4⟩ := info_parts hinfo
  have hb := below_al w (.cells us.toArray e)
  have hh := heap_alloc_new w (.cells us.toArray e)
  have hs : Src Try.prog size T (.slice (some ⟨w.heap.size, 0, none⟩) 1 1) 1 us (w.alloc (.cells us.toArray e)) := by
    refine Src.ofSlice _ hu _ _ _ _ (by omega) (fun j u hj => ?_) h1
    rw [addr_add, cell_of_row _ _ _ _ _ _ hh, Nat.zero_add]
    simpa using hj
  obtain ⟨a', c', w', m1, m2, m3, m4, _⟩ := run_append_row (P := Try.prog) _ T e i _ size bytes hu k1 k2 k3 k4 hzs (hR.below hb) _ 1 _ hs (by unfold maxLen; omega) (by
    have : (n + 1) * bytes ≤ (n + 1) * 136 := Nat.mul_le_mul_left _ hb64
    omega)
  refine ⟨a', c', w', m1, m2, (Mod.of_below _ hb).trans m3 (fun _ h => .inl h), fun k hk => ?_⟩
  rcases m4 k hk with h | h
  · exact .inl h
  · exact .inr (by have := hb.size; omega)
/-- A list appended to an empty one. -/
theorem copy_empty {T e : TypeId} {z : Value} {size bytes : Nat} (hu : Try.prog.underlying T = some (.slice e)) (hinfo : (Try.prog.info? e).map (fun i => (i.zero, i.size, i.bytes)) = some (some z, size, bytes)) (hzs : z.cells.size = size) (hs0 : 0 < size) (hb : bytes ≤ 136)
    {w : World} {a : Option Addr} {n c : Nat} {us : List Value} (hR : Rd w a us) (hl : us.length = n * size) (h1 : ∀ u ∈ us, u.oneCell' = true) (hn : n ≤ 1048576) :
    ∃ a' c' w', (∀ ty, (Builtin.append_ #[T, T] ty #[.slice (some ⟨w.heap.size, 0, none⟩) 0 0, .slice a n c]).run Try.prog (w.alloc (.cells #[] e)) = .ok (.slice a' n c') w') ∧ Row w' e size a' n c' us ∧ (∀ k, blk a' = some k → w.heap.size ≤ k) ∧ Below w.heap.size w w' := by
  obtain ⟨i, k1, k2, k3, k4⟩ := info_parts hinfo
  have hba := below_al w (.cells #[] e)
  have hs := (hR.below hba).src (P := Try.prog) (c := c) hu hl hs0 h1
  have hr0 : Row (w.alloc (.cells #[] e)) e size (some ⟨w.heap.size, 0, none⟩) 0 0 [] := row_new (n := 0) (cs := #[]) (heap_alloc_new w _) (by simp) (Nat.zero_le _)
  obtain ⟨a', c', w', m1, m2, m3, m4, m5⟩ := run_append_row (P := Try.prog) (w.alloc (.cells #[] e)) T e i z size bytes hu k1 k2 k3 k4 hzs hr0 _ n us hs (by unfold maxLen; omega) (by
    have : (0 + n) * bytes ≤ (0 + n) * 136 := Nat.mul_le_mul_left _ hb
    omega)
  rw [Nat.zero_add] at m2
  simp only [Nat.zero_add] at m1
  rw [List.nil_append] at m2
  refine ⟨a', c', w', m1, m2, fun k hk => ?_, hba.trans (m3.below (by simp) (fun k _ hk => by cases hk; exact Nat.le_refl _))⟩
  rcases m4 k hk with h | h
  · cases h; exact Nat.le_refl _
  · have := hba.size; omega
theorem DeR.of_row {α : Type} [Inhabited α] {T : TypeId} {sz : Nat} {E : World → List Value → α → Prop} {w : World} {a : Option Addr} {c : Nat} {L : List Value} {xs : List α} (hR : Row w T sz a xs.length c L) (hl : xs.length ≤ BIG) (he : ∀ i, i < xs.length → E w (el sz L i) (xs.getD i default)) : DeR sz E w (.slice a xs.length c) xs := by
  refine ⟨a, c, (List.range xs.length).map fun i => el sz L i, rfl, ?_, by simp, hl, fun i hi => ?_⟩
  · rw [chunks_flat, List.take_of_length_le (by rw [hR.len]; exact Nat.le_refl _)]
    exact hR.rd
  · have e : ((List.range xs.length).map fun i => el sz L i).getD i [] = el sz L i := by
      rw [List.getD_eq_getElem?_getD, List.getElem?_map, List.getElem?_range hi]
      rfl
    rw [e]
    exact ⟨el_len hR.len hi, he i hi⟩
/-- So many things so far, each stable as long as its own blocks are. -/
structure AG {α : Type} [Inhabited α] (T : TypeId) (sz : Nat) (E : World → List Value → α → Prop) (N : Nat) (xs : List α) (i : Nat) (a : Option Addr) (c : Nat) (wr : World) : Prop where
  ex : ∃ (L : List Value) (lo hi : Nat → Nat), Row wr T sz a i c L ∧ ∀ j, j < i → N ≤ lo j ∧ hi j ≤ wr.heap.size ∧ (∀ k, blk a = some k → ¬ (lo j ≤ k ∧ k < hi j)) ∧ ∀ w', (∀ k, lo j ≤ k → k < hi j → w'.heap[k]? = wr.heap[k]?) → E w' (el sz L j) (xs.getD j default)
  ge : ∀ k, blk a = some k → N ≤ k
section
variable {α : Type} [Inhabited α] {T : TypeId} {sz : Nat} {E : World → List Value → α → Prop} {N : Nat} {xs : List α} {i : Nat} {a a' : Option Addr} {c c' : Nat} {wr w' wb : World}
theorem AG.start : AG T sz E N xs 0 none 0 wr := ⟨⟨[], fun _ => 0, fun _ => 0, Row.nil, fun j hj => absurd hj (Nat.not_lt_zero j)⟩, fun k hk => by cases hk⟩
theorem AG.kept (h : AG T sz E N xs i a c wr) (hs : wr.heap.size ≤ w'.heap.size) (hk : ∀ k, N ≤ k → k < wr.heap.size → w'.heap[k]? = wr.heap[k]?) : AG T sz E N xs i a c w' := by
  obtain ⟨⟨L, lo, hi, r, e⟩, g⟩ := h
  refine ⟨⟨L, lo, hi, r.kept fun k h1 => hk k (g k h1) (r.lt k h1), fun j hj => ?_⟩, g⟩
  obtain ⟨e1, e2, e3, e4⟩ := e j hj
  exact ⟨e1, by omega, e3, fun w2 h2 => e4 w2 fun k k1 k2 => (h2 k k1 k2).trans (hk k (by omega) (by omega))⟩
theorem AG.end (h : AG T sz E N xs xs.length a c wr) (hl : xs.length ≤ BIG) : DeR sz E wr (.slice a xs.length c) xs := by
  obtain ⟨⟨L, lo, hi, r, e⟩, g⟩ := h
  exact DeR.of_row r hl fun i hi => (e i hi).2.2.2 wr fun _ _ _ => rfl
theorem el_app {L us : List Value} {n : Nat} (hl : L.length = n * sz) (hu : us.length = sz) (j : Nat) : (j < n → el sz (L ++ us) j = el sz L j) ∧ (j = n → el sz (L ++ us) j = us) := by
  constructor
  · intro hj
    have := Nat.mul_le_mul_right sz (show j + 1 ≤ n from hj)
    rw [Nat.succ_mul] at this
    unfold el
    rw [List.drop_append_of_le_length (by omega), List.take_append_of_le_length (by rw [List.length_drop]; omega)]
  · rintro rfl
    unfold el
    rw [List.drop_append, List.drop_of_length_le (by omega), List.nil_append, hl, Nat.sub_self, List.drop_zero, List.take_of_length_le (by omega)]
/-- One more: made from wr to wb, then appended. -/
theorem AG.step (h : AG T sz E N xs i a c wr) (hN : N ≤ wr.heap.size) (hb : Below wr.heap.size wr wb) {us : List Value} (hus : us.length = sz) (hE : ∀ w2, (∀ k, wr.heap.size ≤ k → k < wb.heap.size → w2.heap[k]? = wb.heap[k]?) → E w2 us (xs.getD i default))
    (hrow : ∀ L, Row wb T sz a i c L → Row w' T sz a' (i + 1) c' (L ++ us)) (hm : Mod (fun k => blk a = some k) wb w') (ha : ∀ k, blk a' = some k → blk a = some k ∨ wb.heap.size ≤ k) : AG T sz E N xs (i + 1) a' c' w' := by
  obtain ⟨⟨L, lo, hi, r, e⟩, g⟩ := h
  have hsz := hb.size
  have hsz2 := hm.size
  have hal := r.lt
  refine ⟨⟨L ++ us, fun j => if j < i then lo j else wr.heap.size, fun j => if j < i then hi j else wb.heap.size, hrow L (r.below hb), fun j hj => ?_⟩, fun k hk => ?_⟩
  · by_cases hji : j < i
    · simp only [hji, if_true]
      obtain ⟨e1, e2, e3, e4⟩ := e j hji
      rw [(el_app r.len hus j).1 hji]
      refine ⟨e1, by omega, fun k hk hh => ?_, fun w2 h2 => e4 w2 fun k k1 k2 => ?_⟩
      · rcases ha k hk with h1 | h1
        · exact e3 k h1 hh
        · omega
      · rw [h2 k k1 k2, hm.block k (by omega) (fun h1 => e3 k h1 ⟨k1, k2⟩), hb.block k (by omega)]
    · have hji' : j = i := by omega
      subst hji'
      simp only [hji, if_false]
      rw [(el_app r.len hus j).2 rfl]
      refine ⟨hN, hsz2, fun k hk hh => ?_, fun w2 h2 => hE w2 fun k k1 k2 => ?_⟩
      · rcases ha k hk with h1 | h1
        · have := hal k h1; omega
        · omega
      · rw [h2 k k1 k2]
        exact hm.block k k2 (fun h1 => by have := hal k h1; omega)
  · rcases ha k hk with h1 | h1
    · exact g k h1
    · omega
end
end Go.Proofs.Ytjbmljheepomnaa
