/- The document's own Canon. -/
import Derived.Test.YtaikeeidjfcijaaW8
import Derived.Test.YtaikeeidjfcijaaM2
namespace Go.Proofs.Ytaikeeidjfcijaa
open Go.RowKit Go.Maps

theorem scan_take {l out : List Nat} {k : Nat} (ha : above out (l.getD k 0) = true) (h : scanTo l out k = none ∨ l.getD k 0 < (scanTo l out k).getD 0) : scanTo l out (k + 1) = some (l.getD k 0) := by
  simp only [scanTo]; rw [if_pos ⟨ha, h⟩]
theorem scan_low {l out : List Nat} {k : Nat} (ha : above out (l.getD k 0) = false) : scanTo l out (k + 1) = scanTo l out k := by
  simp only [scanTo]; rw [if_neg]; rintro ⟨h, _⟩; rw [ha] at h; cases h
theorem scan_more {l out : List Nat} {k m : Nat} (h : scanTo l out k = some m) (hm : m ≤ l.getD k 0) : scanTo l out (k + 1) = scanTo l out k := by
  simp only [scanTo]; rw [if_neg]
  rintro ⟨_, h' | h'⟩
  · rw [h] at h'; cases h'
  · rw [h, Option.getD_some] at h'; omega

theorem above_nil (x : Nat) : above [] x = true := rfl
theorem above_some {out : List Nat} {x : Nat} (h : 0 < out.length) : above out x = decide (out.getD (out.length - 1) 0 < x) := by
  have e : out.getLast? = some (out.getD (out.length - 1) 0) := by
    rw [List.getLast?_eq_getElem?]
    simp [List.getD_eq_getElem?_getD, show out.length - 1 < out.length by omega]
  simp only [above, e]

def lenOf : Value → Nat | .slice _ n _ => n | _ => 0

theorem owns_len {w : World} {B n : Nat} {e : TypeId} {v : Value} {xs : List Value} (h : w.ownsRow B e 1 v n xs) : lenOf v = n := by
  obtain ⟨a, cap, rfl, _⟩ := cells_of_owns h
  rfl

theorem canonTo_len {l out : List Nat} (h : CanonTo l out) : out.length ≤ l.length := rising_len l out h.1 h.2.1

set_option maxRecDepth 100000 in
set_option maxHeartbeats 4000000 in
theorem rcanon_any (a : Option Addr) (cap : Nat) (l : List Nat) (w : World) (hC : Cells w a (labCells l)) (hlen : l.length ≤ 1000) :
    Calls Try.prog 15 #[.slice a l.length cap] w fun e w' => ∃ v c, IsCanon l c ∧ e = .returned v ∧ w'.ownsRow w.heap.size 35 1 v c.length (labCells c) ∧ Below w.heap.size w w' := by
  obtain ⟨i0, hi, hz0, hz1, hz2⟩ := info_parts info35
  go_enter Try.func15, Try.ntmps15
  go_wp2
  go_loopw [3] (fun v wr => ∃ out : List Nat, Hid (CanonTo l out) ∧ wr.ownsRow w.heap.size 35 1 v out.length (labCells out) ∧ Below w.heap.size w wr) (fun v _ => l.length + 1 - lenOf v)
  case atStart => exact ⟨[], canonTo_nil l, World.ownsRow_made w #[] 0 (Nat.le_refl _) (Nat.zero_le _) (by simp), (Below.refl _ _).alloc (Nat.le_refl _) _⟩
  case round =>
    obtain ⟨out, hcan, hown, hbel⟩ := hrel
    have hol := canonTo_len hcan.out
    obtain ⟨ao, co, rfl, hCo, hco, _⟩ := cells_of_owns hown
    have hCr := hC.kept hbel
    go_wp2
    go_loopw [4, 5, 6] (fun f m i wr2 => ∃ k : Nat, k ≤ l.length ∧ i = .int .i64 k ∧ f = .bool (scanTo l out k).isSome ∧ m = .int .u64 ((scanTo l out k).getD 0 : Nat) ∧ ∃ n, wr2 = wr.drewN n) (fun _ _ i _ => l.length - (intOf i).toNat)
    case atStart => exact ⟨0, Nat.zero_le _, rfl, rfl, rfl, 0, rfl⟩
    case round =>
      obtain ⟨k, hk, rfl, hf, hm, n, rfl⟩ := hrel
      by_cases hlt : k < l.length
      · obtain ⟨b, off, rfl, hc⟩ := hCr (lab_ne l k hlt)
        have hx : wr.cell? ⟨b, off + k, none⟩ = some (.int .u64 (l.getD k 0 : Nat)) := hc k _ (lab_at l k hlt)
        have hlt' : (k : Int) < (l.length : Int) := by omega
        clear hc hCr hC
        by_cases h0 : out.length = 0
        · have ha : above out (l.getD k 0) = true := by rw [List.eq_nil_of_length_eq_zero h0]; rfl
          have t0 : ((out.length : Int) == 0) = true := by rw [beq_iff_eq]; omega
          clear h0
          cases hs : scanTo l out k with
          | none =>
            rw [hs] at hf hm
            subst hf hm
            have E : Hid (scanTo l out (k + 1) = some (l.getD k 0)) := scan_take ha (.inl hs)
            simp only [Option.isSome_none, Option.getD_none]
            clear hs ha
            generalize l.getD k 0 = x at *
            go_wp2_with fail
            go_quiet (fail)
            go_wp2
            exact ⟨⟨k + 1, by omega, by go_num, by rw [E.out]; rfl, by rw [E.out]; rfl, _, rfl⟩, by simp [intOf]; omega⟩
          | some m =>
            rw [hs] at hf hm
            subst hf hm
            simp only [Option.isSome_some, Option.getD_some]
            by_cases hlm : l.getD k 0 < m
            · have E : Hid (scanTo l out (k + 1) = some (l.getD k 0)) := scan_take ha (.inr (by rw [hs]; exact hlm))
              clear hs ha
              generalize l.getD k 0 = x at *
              have t3 : (x : Int) < (m : Int) := by omega
              clear hlm
              go_wp2_with fail
              go_quiet (fail)
              go_wp2
              exact ⟨⟨k + 1, by omega, by go_num, by rw [E.out]; rfl, by rw [E.out]; rfl, _, rfl⟩, by simp [intOf]; omega⟩
            · have E : Hid (scanTo l out (k + 1) = some m) := (scan_more hs (by omega)).trans hs
              clear hs ha
              generalize l.getD k 0 = x at *
              have t3 : decide ((x : Int) < (m : Int)) = false := by simp; omega
              have t4 : (m : Int) ≤ (x : Int) := by omega
              clear hlm
              go_wp2_with fail
              go_quiet (fail)
              go_wp2
              exact ⟨⟨k + 1, by omega, by go_num, by rw [E.out]; rfl, by rw [E.out]; rfl, _, rfl⟩, by simp [intOf]; omega⟩
        · obtain ⟨b', off', rfl, hc'⟩ := hCo (lab_ne out 0 (by omega))
          have hy : wr.cell? ⟨b', off' + (out.length - 1), none⟩ = some (.int .u64 (out.getD (out.length - 1) 0 : Nat)) := hc' (out.length - 1) _ (lab_at out (out.length - 1) (by omega))
          have t0 : ((out.length : Int) == 0) = false := by rw [beq_eq_false_iff_ne]; omega
          have t0' : (1 : Int) ≤ (out.length : Int) := by omega
          have habo := above_some (x := l.getD k 0) (show 0 < out.length by omega)
          clear hc' hCo h0
          by_cases hab : out.getD (out.length - 1) 0 < l.getD k 0
          · have ha : above out (l.getD k 0) = true := by rw [habo]; exact decide_eq_true hab
            clear habo
            cases hs : scanTo l out k with
            | none =>
              rw [hs] at hf hm
              subst hf hm
              have E : Hid (scanTo l out (k + 1) = some (l.getD k 0)) := scan_take ha (.inl hs)
              simp only [Option.isSome_none, Option.getD_none]
              clear hs ha
              generalize l.getD k 0 = x at *
              generalize out.getD (out.length - 1) 0 = y at *
              have t1 : (y : Int) < (x : Int) := by omega
              clear hab
              go_wp2_with fail
              go_quiet (fail)
              go_wp2
              exact ⟨⟨k + 1, by omega, by go_num, by rw [E.out]; rfl, by rw [E.out]; rfl, _, rfl⟩, by simp [intOf]; omega⟩
            | some m =>
              rw [hs] at hf hm
              subst hf hm
              simp only [Option.isSome_some, Option.getD_some]
              by_cases hlm : l.getD k 0 < m
              · have E : Hid (scanTo l out (k + 1) = some (l.getD k 0)) := scan_take ha (.inr (by rw [hs]; exact hlm))
                clear hs ha
                generalize l.getD k 0 = x at *
                generalize out.getD (out.length - 1) 0 = y at *
                have t1 : (y : Int) < (x : Int) := by omega
                clear hab
                have t3 : (x : Int) < (m : Int) := by omega
                clear hlm
                go_wp2_with fail
                go_quiet (fail)
                go_wp2
                exact ⟨⟨k + 1, by omega, by go_num, by rw [E.out]; rfl, by rw [E.out]; rfl, _, rfl⟩, by simp [intOf]; omega⟩
              · have E : Hid (scanTo l out (k + 1) = some m) := (scan_more hs (by omega)).trans hs
                clear hs ha
                generalize l.getD k 0 = x at *
                generalize out.getD (out.length - 1) 0 = y at *
                have t1 : (y : Int) < (x : Int) := by omega
                clear hab
                have t3 : decide ((x : Int) < (m : Int)) = false := by simp; omega
                have t4 : (m : Int) ≤ (x : Int) := by omega
                clear hlm
                go_wp2_with fail
                go_quiet (fail)
                go_wp2
                exact ⟨⟨k + 1, by omega, by go_num, by rw [E.out]; rfl, by rw [E.out]; rfl, _, rfl⟩, by simp [intOf]; omega⟩
          · have ha : above out (l.getD k 0) = false := by rw [habo]; exact decide_eq_false hab
            have E : Hid (scanTo l out (k + 1) = scanTo l out k) := scan_low ha
            clear habo ha
            subst hf hm
            generalize scanTo l out k = S at *
            generalize l.getD k 0 = x at *
            generalize out.getD (out.length - 1) 0 = y at *
            have t1 : decide ((y : Int) < (x : Int)) = false := by simp; omega
            have t2 : (x : Int) ≤ (y : Int) := by omega
            clear hab
            go_wp2_with fail
            go_quiet (fail)
            go_wp2
            exact ⟨⟨k + 1, by omega, by go_num, by rw [E.out], by rw [E.out], _, rfl⟩, by simp [intOf]; omega⟩
      · have ek : k = l.length := by omega
        subst ek
        have hge : decide (((l.length : Nat) : Int) < (l.length : Int)) = false := by simp
        cases hs : scanTo l out l.length with
        | none =>
          rw [hs] at hf hm
          subst hf hm
          have E := canonTo_end hcan.out hs
          clear hs
          go_wp2
          go_ret
          exact ⟨_, out, E, rfl, hown, below_drewN hbel n⟩
        | some m =>
          rw [hs] at hf hm
          subst hf hm
          have E : Hid (CanonTo l (out ++ [m])) := canonTo_step hcan.out hs
          have hol2 := canonTo_len E.out
          rw [List.length_append] at hol2
          clear hs
          go_wp2_with (first | (at_builtin; refine wpList_append_own _ rfl _ _ 23 rfl w.heap.size 35 i0 (.int .u64 0) 1 8 Try.underlying23 hi hz0 hz1 hz2 rfl (by decide) _ _ _ rfl (World.ownsRow.alloc (w := wr.drewN n) hown _) ⟨wr.heap.size, 0, none⟩ 1 1 [.int .u64 (m : Nat)] rfl rfl (one_cell_at (w := wr.drewN n) _) (lab_one [m]) (by unfold maxLen; omega) (by omega) (by have := hbel.size; simp; omega) ?_; intro v' w1 hown' hgrow _) | go_in)
          go_roundw
          case rel => exact ⟨out ++ [m], E, by rw [List.length_append, labCells, List.map_append]; exact hown', below_append (below_drewN hbel n) hbel.size hown hgrow⟩
          case measure => rw [owns_len hown']; simp [lenOf]; omega
end Go.Proofs.Ytaikeeidjfcijaa
