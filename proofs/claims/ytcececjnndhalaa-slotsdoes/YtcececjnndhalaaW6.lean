/- The document's own Gap and Nth. -/
import Derived.Test.YtcececjnndhalaaW5
namespace Go.Proofs.Ytcececjnndhalaa
open Go.RowKit

theorem gap_test {l : List Int} {p : Int} {G g : Nat} (hp : 0 < l.length) (hc : 0 < cnt l p) (hG : IsGap l p G) (hg : g ≤ G) :
    (∀ f, f < l.length → ahead l p f < ahead l p (f + g)) ↔ g = G := by
  rcases hG with ⟨_, h0⟩ | ⟨_, h0, hk, ha, f0, hf0⟩
  · omega
  · constructor
    · intro h
      have h1 := h (f0 % l.length) (Nat.mod_lt _ hp)
      obtain ⟨j, hj, e⟩ := some_of_ahead l p hp _ _ h1
      rw [ownN_shift] at e
      have : ¬ (j + 1 < G) := fun hx => hf0 j hx e
      omega
    · rintro rfl f _
      obtain ⟨j, hj, e⟩ := ha f
      exact ahead_some l p hp f g j hj e

set_option maxRecDepth 100000 in
set_option maxHeartbeats 1000000 in
theorem rgap_zero (sb lb cap : Nat) (l : List Int) (w : World) (h : Sl w sb lb cap l) (p : Int) (hc : cnt l p = 0) :
    Calls Try.prog 14 #[.pointer (some ⟨sb, 0, none⟩), .int .i64 p] w fun e w' => e = .returned (.int .i64 0) ∧ ∃ n, w' = w.drewN n := by
  have h0 := h.c0
  have h1 := rin_any sb lb cap l w h p l.length (Nat.le_refl _)
  rw [cnt_take_all, hc] at h1
  go_enter Try.func14, Try.ntmps14
  go_wp2_with fail
  refine h1.mono ?_
  rintro e w1 ⟨rfl, n1, rfl⟩
  go_wp2
  go_ret
  exact ⟨rfl, n1, rfl⟩

theorem countN_nat (l : List Int) (p : Int) (f g : Nat) : countN l p (f : Int) ((f : Int) + (g : Int)) = ahead l p (f + g) - ahead l p f := by
  unfold countN
  rw [show ((f : Int) + (g : Int)).toNat = f + g by omega, show (f : Int).toNat = f by omega]

set_option maxRecDepth 100000 in
set_option maxHeartbeats 1000000 in
theorem rgap_some (sb lb cap : Nat) (l : List Int) (w : World) (h : Sl w sb lb cap l) (p : Int) (G : Nat) (hG : IsGap l p G) (hc : 0 < cnt l p) :
    Calls Try.prog 14 #[.pointer (some ⟨sb, 0, none⟩), .int .i64 p] w fun e w' => e = .returned (.int .i64 G) ∧ ∃ n, w' = w.drewN n := by
  have h0 := fun n => (h.drewN n).c0
  have h00 := h.c0
  have h1 := rin_any sb lb cap l w h p l.length (Nat.le_refl _)
  have hcn := fun n a b ha hb => rcount_any sb lb cap l (w.drewN n) (h.drewN n) p a b ha hb
  have h64 := h.len
  have hpos := h.pos
  rw [cnt_take_all] at h1
  have hG1 : 1 ≤ G ∧ G ≤ l.length := by
    rcases hG with ⟨_, h0⟩ | ⟨_, h0, hk, ha, f0, hf0⟩ <;> omega
  have hgt : ∀ g, g ≤ G → Hid ((∀ f, f < l.length → ahead l p f < ahead l p (f + g)) ↔ g = G) := fun g hg => gap_test hpos hc hG hg
  clear hG
  generalize cnt l p = c at *
  have t1 : ((c : Int) == 0) = false := by rw [beq_eq_false_iff_ne]; omega
  go_enter Try.func14, Try.ntmps14
  go_wp2_with fail
  refine h1.mono ?_
  rintro e w1 ⟨rfl, n1, rfl⟩
  go_wp2_with fail
  go_loopw [5] (fun a wr => ∃ g n : Nat, 1 ≤ g ∧ g ≤ G ∧ a = .int .i64 g ∧ wr = w.drewN n) (fun a _ => G + 1 - (intOf a).toNat)
  case atStart => exact ⟨1, n1, Nat.le_refl _, by omega, rfl, rfl⟩
  case round =>
    obtain ⟨g, n, hg1, hgG, rfl, rfl⟩ := hrel
    go_wp2_with fail
    go_loopw [6, 7] (fun b i wr => ∃ (B : Bool) (k m : Nat), k ≤ l.length ∧ b = .bool B ∧ i = .int .i64 k ∧ Hid (B = true ↔ ∀ f, f < k → ahead l p f < ahead l p (f + g)) ∧ wr = w.drewN m) (fun _ i _ => l.length - (intOf i).toNat)
    case atStart => exact ⟨true, 0, n, Nat.zero_le _, rfl, rfl, ⟨fun _ f hf => absurd hf (Nat.not_lt_zero f), fun _ => rfl⟩, rfl⟩
    case round =>
      obtain ⟨B, k, m, hk, rfl, rfl, hB, rfl⟩ := hrel
      have hcell := h0 m
      by_cases hlt : k < l.length
      · have hlt' : (k : Int) < (l.length : Int) := by omega
        have hct := hcn m k ((k : Int) + (g : Int)) (by omega) (by omega)
        rw [countN_nat] at hct
        by_cases hs : ahead l p k < ahead l p (k + g)
        · have H : Hid (B = true ↔ ∀ f, f < k + 1 → ahead l p f < ahead l p (f + g)) := by
            constructor
            · intro hb f hf
              by_cases e : f = k
              · subst e; exact hs
              · exact hB.out.1 hb f (by omega)
            · intro hall
              exact hB.out.2 fun f hf => hall f (by omega)
          have hx0 : 0 < ahead l p (k + g) - ahead l p k := by omega
          generalize ahead l p (k + g) - ahead l p k = x at *
          clear hs hB
          have t2 : (0 : Int) < (x : Int) := by omega
          cases B
          · go_wp2_with fail
            refine hct.mono ?_
            rintro e w3 ⟨rfl, m3, rfl⟩
            go_wp2
            go_roundw
            case rel => exact ⟨false, k + 1, m + m3, by omega, rfl, by go_num, H, rfl⟩
            case measure => simp [intOf]; omega
          · go_wp2_with fail
            refine hct.mono ?_
            rintro e w3 ⟨rfl, m3, rfl⟩
            go_wp2
            go_roundw
            case rel => exact ⟨true, k + 1, m + m3, by omega, rfl, by go_num, by simpa [Hid] using H, rfl⟩
            case measure => simp [intOf]; omega
        · have H : Hid (false = true ↔ ∀ f, f < k + 1 → ahead l p f < ahead l p (f + g)) := by
            constructor
            · intro hb; cases hb
            · intro hall
              exact absurd (hall k (by omega)) hs
          have hx0 : Hid (ahead l p (k + g) - ahead l p k = 0) := by show _ = _; omega
          rw [hx0.out] at hct
          clear hs hB hx0
          cases B
          · go_wp2_with fail
            refine hct.mono ?_
            rintro e w3 ⟨rfl, m3, rfl⟩
            go_wp2
            go_roundw
            case rel => exact ⟨false, k + 1, m + m3, by omega, rfl, by go_num, H, rfl⟩
            case measure => simp [intOf]; omega
          · go_wp2_with fail
            refine hct.mono ?_
            rintro e w3 ⟨rfl, m3, rfl⟩
            go_wp2
            go_roundw
            case rel => exact ⟨false, k + 1, m + m3, by omega, rfl, by go_num, H, rfl⟩
            case measure => simp [intOf]; omega
      · have ek : k = l.length := by omega
        subst ek
        have hge := (hgt g hgG).out
        cases B
        · have hne : g ≠ G := fun e => by
            have := hB.out.2 (hge.2 e)
            cases this
          clear hge
          go_wp2
          go_roundw
          case rel => exact ⟨g + 1, m, by omega, by omega, by go_num, rfl⟩
          case measure => simp [intOf]; omega
        · have E : Hid (g = G) := hge.1 (hB.out.1 rfl)
          clear hge
          go_wp2
          go_ret
          exact ⟨by rw [← E.out]; rfl, m, rfl⟩

theorem rgap_any (sb lb cap : Nat) (l : List Int) (w : World) (h : Sl w sb lb cap l) (p : Int) (G : Nat) (hG : IsGap l p G) :
    Calls Try.prog 14 #[.pointer (some ⟨sb, 0, none⟩), .int .i64 p] w fun e w' => e = .returned (.int .i64 G) ∧ ∃ n, w' = w.drewN n := by
  rcases Nat.eq_zero_or_pos (cnt l p) with hc | hc
  · have : G = 0 := by
      rcases hG with ⟨h0, _⟩ | ⟨h0, _⟩
      · exact h0
      · omega
    subst this
    exact rgap_zero sb lb cap l w h p hc
  · exact rgap_some sb lb cap l w h p G hG hc

end Go.Proofs.Ytcececjnndhalaa
