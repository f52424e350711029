/- State. -/
import Derived.Test.YtdihbbpndijdoaaKW9
namespace Go.Proofs.Ytdihbbpndijdoaa
open Go.RowKit Go.Maps

/-- A list of lists: those from lo on lie as they should, each in memory of its own, not below B. -/
structure QL (w : World) (B lo : Nat) (a : Option Addr) (c : Nat) (es : List Qe) : Prop where
  row : Row w 33 1 a es.length c (sC es)
  qs : ∀ i, lo ≤ i → i < es.length → Qw w (eAt es i)
  nb : ∀ k, blk a = some k → B ≤ k
  qb : ∀ i, lo ≤ i → i < es.length → ∀ k, blk (eAt es i).1 = some k → B ≤ k ∧ blk a ≠ some k
  qq : ∀ i j, lo ≤ i → lo ≤ j → i < es.length → j < es.length → i ≠ j → ∀ k, blk (eAt es i).1 = some k → blk (eAt es j).1 ≠ some k
def qfp (lo : Nat) (a : Option Addr) (es : List Qe) (k : Nat) : Prop := blk a = some k ∨ ∃ i, lo ≤ i ∧ i < es.length ∧ blk (eAt es i).1 = some k
section
variable {w w' : World} {B lo : Nat} {a : Option Addr} {c : Nat} {es : List Qe}
theorem QL.lt (h : QL w B lo a c es) : ∀ k, qfp lo a es k → k < w.heap.size := fun k hk => by
  rcases hk with hk | ⟨i, h1, h2, hk⟩
  · exact h.row.lt k hk
  · exact (h.qs i h1 h2).lt k hk
theorem QL.ge (h : QL w B lo a c es) : ∀ k, qfp lo a es k → B ≤ k := fun k hk => by
  rcases hk with hk | ⟨i, h1, h2, hk⟩
  · exact h.nb k hk
  · exact (h.qb i h1 h2 k hk).1
theorem QL.mod {S : Nat → Prop} (h : QL w B lo a c es) (hm : Mod S w w') (hn : ∀ k, qfp lo a es k → ¬ S k) : QL w' B lo a c es :=
  ⟨h.row.mod hm (fun k hk => hn k (.inl hk)), fun i h1 h2 => (h.qs i h1 h2).mod hm (fun k hk => hn k (.inr ⟨i, h1, h2, hk⟩)), h.nb, h.qb, h.qq⟩
theorem QL.below (h : QL w B lo a c es) (hb : Below w.heap.size w w') : QL w' B lo a c es := h.mod (Mod.of_below (fun _ => False) hb) (fun _ _ h => h)
theorem QL.mono {lo' : Nat} (h : QL w B lo a c es) (hl : lo ≤ lo') : QL w B lo' a c es :=
  ⟨h.row, fun i h1 h2 => h.qs i (by omega) h2, h.nb, fun i h1 h2 => h.qb i (by omega) h2, fun i j h1 h2 => h.qq i j (by omega) (by omega)⟩
theorem QL.cell (h : QL w B lo a c es) (i : Nat) (hi : i < es.length) : ∃ g, a = some ⟨g, 0, none⟩ ∧ w.cell? ⟨g, i, none⟩ = some (.slice (eAt es i).1 (eAt es i).2.2.length (eAt es i).2.1) ∧ w.frozen? ⟨g, i, none⟩ = false := by
  obtain ⟨g, rfl, h0⟩ := h.row.cell i (by omega)
  exact ⟨g, rfl, by rw [h0, sC_at es i hi]; rfl, h.row.free i g rfl⟩
/-- Another list at the place i, in new memory. -/
theorem QL.put {g : Nat} (h : QL w B lo (some ⟨g, 0, none⟩) c es) {i : Nat} (hi : i < es.length) {e' : Qe} (hq : Qw w e') (hn : ∀ k, blk e'.1 = some k → B ≤ k ∧ ¬ qfp lo (some ⟨g, 0, none⟩) es k) :
    QL (w.setCell ⟨g, i, none⟩ (sV e')) B lo (some ⟨g, 0, none⟩) c (es.set i e') := by
  have hm : Mod (fun k => k = g) w (w.setCell ⟨g, i, none⟩ (sV e')) := (Mod.refl (fun k => k = g) w).setCell (.inl rfl) _
  have hp := h.row.put i (sV e')
  rw [sC_set] at hp
  refine ⟨by rw [List.length_set]; exact hp, fun j h1 hj => ?_, h.nb, fun j h1 hj k hk => ?_, fun j l h1 h2 hj hl hjl k hk => ?_⟩
  · rw [List.length_set] at hj
    rw [eAt_set hi]
    split
    · exact hq.mod hm (fun k hk e => (hn k hk).2 (.inl (by rw [e]; rfl)))
    · exact (h.qs j h1 hj).mod hm (fun k hk e => (h.qb j h1 hj k hk).2 (by rw [e]; rfl))
  · rw [List.length_set] at hj
    rw [eAt_set hi] at hk
    split at hk
    · exact ⟨(hn k hk).1, fun e => (hn k hk).2 (.inl e)⟩
    · exact h.qb j h1 hj k hk
  · rw [List.length_set] at hj hl
    rw [eAt_set hi] at hk ⊢
    split at hk
    · rw [if_neg (by omega)]
      exact fun e => (hn k hk).2 (.inr ⟨l, h2, hl, e⟩)
    · split
      · exact fun e => (hn k e).2 (.inr ⟨j, h1, hj, hk⟩)
      · exact h.qq j l h1 h2 hj hl hjl k hk
/-- One more list. -/
theorem QL.push {w2 : World} {a' : Option Addr} {c' : Nat} {e' : Qe} (h : QL w B lo a c es) (hB : B ≤ w.heap.size) (hm : Mod (fun k => blk a = some k) w w2) (hR : Row w2 33 1 a' (es.length + 1) c' (sC es ++ sC [e'])) (hn : ∀ k, blk a' = some k → blk a = some k ∨ w.heap.size ≤ k) (hq : Qw w2 e') (hne : ∀ k, blk e'.1 = some k → B ≤ k ∧ ¬ qfp lo a es k ∧ blk a' ≠ some k) :
    QL w2 B lo a' c' (es ++ [e']) := by
  have hel : (es ++ [e']).length = es.length + 1 := by simp
  rw [← sC_app] at hR
  refine ⟨by rw [hel]; exact hR, fun j h1 hj => ?_, fun k hk => ?_, fun j h1 hj k hk => ?_, fun j l h1 h2 hj hl hjl k hk => ?_⟩
  · rw [hel] at hj
    rw [eAt_app hj]
    split
    · exact hq
    · exact (h.qs j h1 (by omega)).mod hm (fun k hk e => (h.qb j h1 (by omega) k hk).2 e)
  · rcases hn k hk with h1 | h1
    · exact h.nb k h1
    · omega
  · rw [hel] at hj
    rw [eAt_app hj] at hk
    split at hk
    · exact ⟨(hne k hk).1, (hne k hk).2.2⟩
    · have hj' : j < es.length := by omega
      refine ⟨(h.qb j h1 hj' k hk).1, fun e => ?_⟩
      rcases hn k e with h2 | h2
      · exact (h.qb j h1 hj' k hk).2 h2
      · have := (h.qs j h1 hj').lt k hk; omega
  · rw [hel] at hj hl
    rw [eAt_app hj] at hk
    rw [eAt_app hl]
    split at hk
    · rw [if_neg (by omega)]
      exact fun e => (hne k hk).2.1 (.inr ⟨l, h2, by omega, e⟩)
    · split
      · exact fun e => (hne k e).2.1 (.inr ⟨j, h1, by omega, hk⟩)
      · exact h.qq j l h1 h2 (by omega) (by omega) hjl k hk
end

/-- What State tells. -/
structure Told (w : World) (os : List Int) (qs : Qs) (w' : World) (a1 : Option Addr) (c1 : Nat) (a2 : Option Addr) (c2 : Nat) (es : List Qe) : Prop where
  own : Row w' 3 1 a1 os.length c1 (iC os)
  ql : QL w' w.heap.size 0 a2 c2 es
  qs : qsOf es = qs
  new : ∀ k, blk a1 = some k → w.heap.size ≤ k ∧ ¬ qfp 0 a2 es k
  bel : Below w.heap.size w w'

theorem made_nils (n : Nat) : (madeCells (Value.slice none 0 0).cells (n * 1)).toList = sC (List.replicate n (none, 0, [])) := by
  rw [sC, List.map_replicate, Nat.mul_one]
  apply List.ext_getElem?
  intro i
  unfold madeCells
  by_cases h : i < n
  · simp [sV, Value.cells, h, Nat.mod_one]
  · simp [sV, Value.cells, h, Nat.mod_one]
theorem eAt_nils (n i : Nat) : eAt (List.replicate n (none, 0, [])) i = (none, 0, []) := by
  unfold eAt
  rw [List.getD_eq_getElem?_getD, List.getElem?_replicate]
  split <;> rfl
theorem qsOf_ext {es : List Qe} {qs : Qs} (hl : es.length = qs.length) (h : ∀ j, j < es.length → (eAt es j).2.2 = qAt qs j) : qsOf es = qs := by
  apply List.ext_getElem?
  intro j
  rcases Nat.lt_or_ge j es.length with h1 | h1
  · have h2 := h j h1
    rw [← qAt_of] at h2
    unfold qAt at h2
    rw [List.getD_eq_getElem?_getD, List.getD_eq_getElem?_getD, List.getElem?_eq_getElem (by rw [qsOf_len]; exact h1), List.getElem?_eq_getElem (by omega)] at h2
    rw [List.getElem?_eq_getElem (by rw [qsOf_len]; exact h1), List.getElem?_eq_getElem (by omega)]
    simpa using h2
  · rw [List.getElem?_eq_none (by rw [qsOf_len]; exact h1), List.getElem?_eq_none (by omega)]

set_option maxRecDepth 100000 in
set_option maxHeartbeats 4000000 in
theorem state_any {w : World} {b : Nat} {F : Nat → Prop} {os : List Int} {qs : Qs} (h : Lk w b F os qs) (ht : total qs ≤ 8796093022208) :
    Calls Try.prog 15 #[.pointer (some ⟨b, 0, none⟩)] w fun e w' => ∃ a1 c1 a2 c2 es, e = .returned (.tuple #[.slice a1 os.length c1, .slice a2 os.length c2]) ∧ Told w os qs w' a1 c1 a2 c2 es := by
  obtain ⟨hG, m, ao, co, aq, cq, es0, hL, hq, hF, -⟩ := h
  have hL := hL.lb
  have c1 := hL.c1
  have hel : es0.length = os.length := by rw [← hG.n, ← hq, qsOf_len]
  have h8 := hG.le
  have hql : qs.length = os.length := hG.n
  obtain ⟨n, hN⟩ : ∃ n, Hid (os.length = n) := ⟨_, rfl⟩
  rw [hN.out] at hel h8 hql
  rw [hel] at c1
  have HC : Hid (∀ i, i < n → ∀ wr, Below w.heap.size w wr → ∃ g, aq = some ⟨g, 0, none⟩ ∧ wr.cell? ⟨g, i, none⟩ = some (.slice (eAt es0 i).1 (qAt qs i).length (eAt es0 i).2.1) ∧ Rd wr (eAt es0 i).1 (iC (qAt qs i)) ∧ (qAt qs i).length ≤ 8796093022208) := hd (fun i hi wr hb => by
    have hL2 := hL.below hb
    have e : qAt qs i = (eAt es0 i).2.2 := by rw [← hq, qAt_of]
    obtain ⟨g, h1, h2⟩ := hL2.queue i (by omega)
    rw [e]
    exact ⟨g, h1, h2, (hL2.qs i (by omega)).rd, by rw [← e]; exact Nat.le_trans (total_le i) ht⟩)
  have HO : Hid (∀ wr, Below w.heap.size w wr → wr.cell? ⟨b, 0, none⟩ = some (.slice ao n co) ∧ Rd wr ao (iC os)) := hd (fun wr hb => by
    have hL2 := hL.below hb
    have := hL2.c0
    rw [hN.out] at this
    exact ⟨this, hL2.ro.rd⟩)
  have HEL := hd hel
  have HQL := hd hql
  rw [hN.out]
  have hmk := make_eq 34 33 _ 1 24 Try.underlying34 infoL n (by omega) (by unfold maxLen; omega) w
  have hbl : b < w.heap.size := hL.blt
  clear hL hel hql hG hq hF ht
  obtain ⟨w1, hw1⟩ : ∃ W, Hid (w.alloc (.cells (madeCells (Value.slice none 0 0).cells (n * 1)) 33) = W) := ⟨_, rfl⟩
  rw [hw1.out] at hmk
  go_enter Try.func15, Try.ntmps15
  go_upto_region 2 with fail
  have HB1 : Hid (Below w.heap.size w w1) := hd (by rw [← hw1.out]; exact below_al w _)
  have HS : Hid (QL w1 w.heap.size 0 (some ⟨w.heap.size, 0, none⟩) n (List.replicate n (none, 0, []))) := hd (by
    have hh := heap_alloc_new w (.cells (madeCells (Value.slice none 0 0).cells (n * 1)) 33)
    rw [hw1.out] at hh
    have hsz : (madeCells (Value.slice none 0 0).cells (n * 1)).size = n * 1 := by
      rw [← Array.length_toList, made_nils, sC_len]; simp
    have hr := row_new (size := 1) (n := n) hh hsz (by unfold maxLen; omega)
    rw [made_nils] at hr
    refine ⟨by rw [List.length_replicate]; exact hr, (fun i _ _ => by rw [eAt_nils]; exact Qw.none' w1), (fun k hk => by cases hk; exact Nat.le_refl _), (fun i _ _ k hk => by rw [eAt_nils] at hk; cases hk), (fun i j _ _ _ _ _ k hk => by rw [eAt_nils] at hk; cases hk)⟩)
  have c1' : w1.cell? ⟨b, 1, none⟩ = some (.slice aq n cq) := (HB1.out.cell (p := ⟨b, 1, none⟩) hbl).trans c1
  obtain ⟨G, hG⟩ : ∃ G, Hid (w.heap.size = G) := ⟨_, rfl⟩
  have HS2 : Hid (QL w1 w.heap.size 0 (some ⟨G, 0, none⟩) n (List.replicate n (none, 0, []))) := hd (by have := HS.out; rw [hG.out] at this ⊢; exact this)
  rw [hG.out]
  clear HS hmk hw1 c1
  go_wp2_with fail
  go_loopg [5, 6, 18, 19, 20, 21, 22, 23, 24, 25, 26, 27, 28] n (fun k v5 v6 v18 v19 v20 v21 v22 v23 v24 v25 v26 v27 v28 wr => ∃ i : Nat, i + k = n ∧ v18 = .int .i64 (i : Int) ∧ Hid (∃ es, QL wr w.heap.size 0 (some ⟨G, 0, none⟩) n es ∧ es.length = n ∧ (∀ j, j < i → (eAt es j).2.2 = qAt qs j) ∧ Below w.heap.size w wr))
  case atStart => exact ⟨0, by omega, by go_num, hd ⟨_, HS2.out, by simp, fun j hj => absurd hj (Nat.not_lt_zero _), HB1.out⟩⟩
  case round =>
    obtain ⟨i, hik, rfl, HX⟩ := hrel
    clear HS2 HB1 c1'
    obtain ⟨es, h1, h2, h3, h4⟩ := HX.out
    by_cases h0 : gk = 0
    · subst h0
      have hi : i = n := by omega
      subst hi
      obtain ⟨d0, hro⟩ := HO.out wr h4
      have hcp := copied_any (c := co) hro (n := i) (by rw [iC_len, hN.out]; omega) (iC_one _) (by omega)
      have HE : Hid (∀ w' a1 c1, Row w' 3 1 a1 i c1 (iC os) → Below wr.heap.size wr w' → (∀ k, blk a1 = some k → wr.heap.size ≤ k) → Told w os qs w' a1 c1 (some ⟨G, 0, none⟩) i es) := hd (fun w' a1 c1 r1 r2 r3 => by
        refine ⟨by rw [hN.out]; exact r1, h1.below r2, qsOf_ext (by rw [h2, HQL.out]) (fun j hj => h3 j (by omega)), fun k hk => ?_, h4.trans (r2.mono h4.size)⟩
        have := r3 k hk
        refine ⟨Nat.le_trans h4.size this, fun hq => ?_⟩
        have := h1.lt k hq
        omega)
      clear HX h1 h2 h3 h4 hik HC HO hro HEL HQL
      go_wp2_with (first | (go_at_call 26; refine hcp.mono ?_; rintro e3 w3 ⟨a1, c1, rfl, r1, r2, r3⟩))
      go_ret2
      exact ⟨a1, c1, _, _, es, rfl, HE.out _ _ _ r1 r2 r3⟩
    · have hlt : i < n := by omega
      obtain ⟨g, rfl, d1, hrd, hqn⟩ := HC.out i hlt wr h4
      obtain ⟨ln, hLN⟩ : ∃ ln, Hid ((qAt qs i).length = ln) := ⟨_, rfl⟩
      rw [hLN.out] at d1 hqn
      have hcp := copied_any (c := (eAt es0 i).2.1) hrd (n := ln) (by rw [iC_len, hLN.out]; omega) (iC_one _) hqn
      have HE : Hid (∀ w' a1 c1, Row w' 3 1 a1 ln c1 (iC (qAt qs i)) → Below wr.heap.size wr w' → (∀ k, blk a1 = some k → wr.heap.size ≤ k) → (∃ u, w'.cell? ⟨G, i, none⟩ = some u) ∧ w'.frozen? ⟨G, i, none⟩ = false ∧ ∃ es', QL (w'.setCell ⟨G, i, none⟩ (.slice a1 ln c1)) w.heap.size 0 (some ⟨G, 0, none⟩) n es' ∧ es'.length = n ∧ (∀ j, j < i + 1 → (eAt es' j).2.2 = qAt qs j) ∧ Below w.heap.size w (w'.setCell ⟨G, i, none⟩ (.slice a1 ln c1))) := hd (fun w' a1 c1 r1 r2 r3 => by
        have hql := h1.below r2
        obtain ⟨g', eg, y1, y2⟩ := hql.cell i (by omega)
        cases eg
        have hqw : Qw w' (a1, c1, qAt qs i) := by
          unfold Qw
          rw [hLN.out]
          exact r1.ro
        have hp := hql.put (i := i) (by omega) hqw (fun k hk => ⟨Nat.le_trans h4.size (r3 k hk), fun hq => by have := h1.lt k hq; have := r3 k hk; omega⟩)
        unfold sV at hp
        simp only [hLN.out] at hp
        refine ⟨⟨_, y1⟩, y2, _, hp, by rw [List.length_set]; exact h2, fun j hj => ?_, ?_⟩
        · rw [eAt_set (by omega)]
          split
          · rename_i e; rw [← e]
          · exact h3 j (by omega)
        · have b1 := h4.trans (r2.mono h4.size)
          have b2 : Mod (fun k => k = G) w' (w'.setCell ⟨G, i, none⟩ (.slice a1 ln c1)) := (Mod.refl (fun k => k = G) w').setCell (.inl rfl) _
          exact b1.trans (b2.below b1.size (fun k _ e => by rw [e, hG.out]; exact Nat.le_refl _)))
      clear HX h1 h2 h3 h4 h0 HC HO hrd HEL HQL hqn
      go_wp2_with (first | (go_at_call 26; refine hcp.mono ?_; rintro e3 w3 ⟨a1, c1, rfl, r1, r2, r3⟩
                            obtain ⟨⟨u, y1⟩, y2, hes⟩ := HE.out w3 a1 c1 r1 r2 r3
                            have HES := hd hes
                            clear hes r1 r2 r3))
      go_roundg (gk - 1)
      case rel => exact ⟨i + 1, by omega, by go_num, HES⟩
      case measure => omega
end Go.Proofs.Ytdihbbpndijdoaa
