/- The law's own: ints; writing over what was told. -/
import Derived.Test.YtdihbbpndijdoaaKR1
namespace Go.Proofs.Ytdihbbpndijdoaa
open Go.RowKit Go.Maps

set_option maxRecDepth 100000 in
set_option maxHeartbeats 1000000 in
theorem ints_any {w : World} {a1 a2 : Option Addr} {n c1 c2 : Nat} {l : List Int} (h1 : Rd w a1 (iC l)) (h2 : Rd w a2 (iC l)) (hN : Hid (l.length = n)) (hn : n ≤ 8796093022208) :
    Calls Try.prog 25 #[.slice a1 n c1, .slice a2 n c2] w fun e w' => e = .returned (.bool true) ∧ ∃ m, w' = w.drewN m := by
  have H1 := hd h1
  have H2 := hd h2
  have hne : ((n : Int) != (n : Int)) = false := by simp
  clear h1 h2
  go_enter Try.func25, Try.ntmps25
  go_wp2_with fail
  go_loopg [5, 11, 12, 13, 14, 15, 16, 17, 18, 19, 20, 21, 22, 23, 24, 25] n (fun k v5 v11 v12 v13 v14 v15 v16 v17 v18 v19 v20 v21 v22 v23 v24 v25 wr => ∃ i : Nat, i + k = n ∧ v5 = .int .i64 (i : Int) ∧ Hid (∃ m, wr = w.drewN m))
  case atStart => exact ⟨0, by omega, by go_num, hd ⟨0, rfl⟩⟩
  case round =>
    obtain ⟨i, hik, rfl, HM⟩ := hrel
    by_cases h0 : gk = 0
    · subst h0
      have hi : i = n := by omega
      subst hi
      clear hik H1 H2
      go_wp2_with fail
      go_ret
      exact ⟨rfl, HM.out⟩
    · have hlt : i < n := by omega
      obtain ⟨m, hm⟩ := HM.out
      have hb : Below w.heap.size w wr := by rw [hm]; exact below_drewN (below_same w) m
      obtain ⟨g1, o1, rfl, x1⟩ := (H1.out.below hb).int i (by rw [hN.out]; exact hlt)
      obtain ⟨g2, o2, rfl, x2⟩ := (H2.out.below hb).int i (by rw [hN.out]; exact hlt)
      obtain ⟨v, hv⟩ : ∃ v, Hid (l.getD i 0 = v) := ⟨_, rfl⟩
      rw [hv.out] at x1 x2
      have HM2 : Hid (∀ q, ∃ m, wr.drewN q = w.drewN m) := hd (fun q => ⟨m + q, by rw [hm]; simp [World.drewN, Nat.add_assoc]⟩)
      clear HM hm hb H1 H2 h0
      go_upto_region 6 with fail
      go_quiet (fail)
      go_wp2_with fail
      go_roundg (gk - 1)
      case rel => exact ⟨i + 1, by omega, by go_num, hd (HM2.out _)⟩
      case measure => omega

theorem ints_b {w : World} {a1 a2 : Option Addr} {n c1 c2 : Nat} {l : List Int} (h1 : Rd w a1 (iC l)) (h2 : Rd w a2 (iC l)) (hN : Hid (l.length = n)) (hn : n ≤ 8796093022208) :
    Calls Try.prog 25 #[.slice a1 n c1, .slice a2 n c2] w fun e w' => e = .returned (.bool true) ∧ Below w.heap.size w w' := by
  refine (ints_any h1 h2 hN hn).mono ?_
  rintro e w' ⟨rfl, m, rfl⟩
  exact ⟨rfl, below_drewN (below_same w) m⟩

theorem Ro.put {w : World} {e : TypeId} {g o n cap : Nat} {xs : List Value} (h : Ro w e (some ⟨g, o, none⟩) n cap xs) (j : Nat) (u : Value) : Ro (w.setCell ⟨g, o + j, none⟩ u) e (some ⟨g, o, none⟩) n cap (xs.set j u) := by
  obtain ⟨h1, h2, h3, ⟨h4, _⟩ | ⟨g', o', cur, h4, h5, h6, h7⟩⟩ := h
  · cases h4
  · cases h4
    refine ⟨by simpa using h1, h2, h3, .inr ⟨g, o, _, rfl, heap_setCell_self h5 u, by simpa using h6, ?_⟩⟩
    rw [Array.toList_setIfInBounds, List.drop_set, if_neg (by omega), List.take_set, h7, Nat.add_sub_cancel_left]
theorem Ro.free {w : World} {e : TypeId} {g o n cap : Nat} {xs : List Value} (h : Ro w e (some ⟨g, o, none⟩) n cap xs) (j : Nat) : w.frozen? ⟨g, j, none⟩ = false := by
  obtain ⟨h1, h2, h3, ⟨h4, _⟩ | ⟨g', o', cur, h4, h5, h6, h7⟩⟩ := h
  · cases h4
  · cases h4
    simp [World.frozen?, h5]

section
variable {w w' : World} {B lo : Nat} {a : Option Addr} {c : Nat} {es : List Qe}
/-- A number of one of the lists written over. -/
theorem QL.poke (h : QL w B lo a c es) {i : Nat} (hlo : lo ≤ i) (hi : i < es.length) {g o : Nat} (ha : (eAt es i).1 = some ⟨g, o, none⟩) {k : Nat} (v : Int) :
    QL (w.setCell ⟨g, o + k, none⟩ (.int .i64 v)) B lo a c (es.set i ((eAt es i).1, (eAt es i).2.1, (eAt es i).2.2.set k v)) := by
  have hm : Mod (fun j => j = g) w (w.setCell ⟨g, o + k, none⟩ (.int .i64 v)) := (Mod.refl (fun j => j = g) w).setCell (.inl rfl) _
  have hg : blk (eAt es i).1 = some g := by rw [ha]; rfl
  have hs : sC (es.set i ((eAt es i).1, (eAt es i).2.1, (eAt es i).2.2.set k v)) = sC es := by
    rw [← sC_set]
    apply List.ext_getElem?
    intro j
    rw [List.getElem?_set]
    split
    · rename_i e
      subst e
      have hl : i < (sC es).length := by rw [sC_len]; omega
      rw [if_pos hl, sC_at es i hi]
      unfold sV
      simp
    · rfl
  refine ⟨by rw [hs, List.length_set]; exact h.row.mod hm (fun j hj e => (h.qb i hlo hi g hg).2 (by rw [← e]; exact hj)), fun j h1 hj => ?_, h.nb, fun j h1 hj x hx => ?_, fun j l h1 h2 hj hl hjl x hx => ?_⟩
  · rw [List.length_set] at hj
    rw [eAt_set hi]
    split
    · have hq := h.qs i hlo hi
      unfold Qw at hq ⊢
      rw [ha] at hq ⊢
      simp only [List.length_set]
      rw [← iC_set]
      exact hq.put k _
    · rename_i hij
      exact (h.qs j h1 hj).mod hm (fun x hx e => h.qq i j hlo h1 hi hj hij x (by rw [e]; exact hg) hx)
  · rw [List.length_set] at hj
    rw [eAt_set hi] at hx
    split at hx
    · exact h.qb i hlo hi x hx
    · exact h.qb j h1 hj x hx
  · rw [List.length_set] at hj hl
    rw [eAt_set hi] at hx ⊢
    split at hx
    · rename_i e
      rw [if_neg (by omega)]
      exact h.qq i l hlo h2 hi hl (by omega) x hx
    · split
      · rename_i e1 e2
        exact h.qq j i h1 hlo hj hi (fun e => e1 e.symm) x hx
      · exact h.qq j l h1 h2 hj hl hjl x hx
/-- A list below lo written over by whatever. -/
theorem QL.drop {g : Nat} (h : QL w B lo (some ⟨g, 0, none⟩) c es) {i : Nat} (hi : i < es.length) (hlo : i < lo) (e' : Qe) : QL (w.setCell ⟨g, i, none⟩ (sV e')) B lo (some ⟨g, 0, none⟩) c (es.set i e') := by
  have hm : Mod (fun k => k = g) w (w.setCell ⟨g, i, none⟩ (sV e')) := (Mod.refl (fun k => k = g) w).setCell (.inl rfl) _
  have hp := h.row.put i (sV e')
  rw [sC_set] at hp
  refine ⟨by rw [List.length_set]; exact hp, fun j h1 hj => ?_, h.nb, fun j h1 hj x hx => ?_, fun j l h1 h2 hj hl hjl x hx => ?_⟩
  · rw [List.length_set] at hj
    rw [eAt_set hi, if_neg (by omega)]
    exact (h.qs j h1 hj).mod hm (fun k hk e => (h.qb j h1 hj k hk).2 (by rw [e]; rfl))
  · rw [List.length_set] at hj
    rw [eAt_set hi, if_neg (by omega)] at hx
    exact h.qb j h1 hj x hx
  · rw [List.length_set] at hj hl
    rw [eAt_set hi, if_neg (by omega)] at hx
    rw [eAt_set hi, if_neg (by omega)]
    exact h.qq j l h1 h2 hj hl hjl x hx
theorem qfp_set {i : Nat} {e' : Qe} (hi : i < es.length) (he : ∀ k, blk e'.1 = some k → blk (eAt es i).1 = some k) : ∀ k, qfp lo a (es.set i e') k → qfp lo a es k := fun k hk => by
  rcases hk with hk | ⟨j, h1, h2, hk⟩
  · exact .inl hk
  · rw [List.length_set] at h2
    rw [eAt_set hi] at hk
    split at hk
    · rename_i e
      exact .inr ⟨i, by omega, hi, he k hk⟩
    · exact .inr ⟨j, h1, h2, hk⟩
theorem qfp_low {i : Nat} {e' : Qe} (hi : i < es.length) (hlo : i < lo) : ∀ k, qfp lo a (es.set i e') k → qfp lo a es k := fun k hk => by
  rcases hk with hk | ⟨j, h1, h2, hk⟩
  · exact .inl hk
  · rw [List.length_set] at h2
    rw [eAt_set hi, if_neg (by omega)] at hk
    exact .inr ⟨j, h1, h2, hk⟩
theorem qfp_mono {lo' : Nat} (h : lo ≤ lo') : ∀ k, qfp lo' a es k → qfp lo a es k := fun k hk => by
  rcases hk with hk | ⟨j, h1, h2, hk⟩
  · exact .inl hk
  · exact .inr ⟨j, by omega, h2, hk⟩
end
/-- append of one onto a row that lies anywhere. -/
theorem Ro.push {w : World} {a : Option Addr} {n c : Nat} {q : List Int} (h : Ro w 3 a n c (iC q)) (hn : n < 8796093022208) (p : Int) :
    ∃ a' c' w', (∀ ty, (Builtin.append_ #[33, 33] ty #[.slice a n c, .slice (some ⟨w.heap.size, 0, none⟩) 1 1]).run Try.prog (w.alloc (.cells #[.int .i64 p] 3)) = .ok (.slice a' (n + 1) c') w') ∧
      Ro w' 3 a' (n + 1) c' (iC (q ++ [p])) ∧ Mod (fun k => blk a = some k) w w' ∧ ∀ k, blk a' = some k → blk a = some k ∨ w.heap.size ≤ k := by
  have hl : q.length = n := by have := h.len; rw [iC_len] at this; omega
  have hq : Qw w (a, c, q) := by unfold Qw; rw [hl]; exact h
  obtain ⟨e', w', m1, m2, m3, m4, m5⟩ := hq.push (by show q.length < 8796093022208; omega) p
  simp only [hl] at m1 m2
  have hl' : e'.2.2.length = n + 1 := by rw [m2]; simp [hl]
  unfold Qw at m3
  rw [hl', m2] at m3
  exact ⟨e'.1, e'.2.1, w', m1, m3, m4, m5⟩
end Go.Proofs.Ytdihbbpndijdoaa
