/- may, Waits, copied, Index. -/
import Derived.Test.YtdihbbpndijdoaaKW2
namespace Go.Proofs.Ytdihbbpndijdoaa
open Go.RowKit Go.Maps

theorem may_any {w : World} {X : List Value} {b : Nat} {ao : Option Addr} {co : Nat} {aq : Option Addr} {cq : Nat} {os : List Int} {es : List Qe} (h : LB w 59 X b ao co aq cq os es) (lock p : Int) :
    Calls Try.prog 27 #[.pointer (some ⟨b, 0, none⟩), .int .i64 lock, .int .i64 p] w fun e w' => e = .returned (.int .i64 (mayE os.length lock p)) ∧ w' = w := by
  have c0 := h.c0
  clear h
  unfold mayE
  generalize os.length = n at *
  by_cases h1 : lock < 0
  · rw [if_pos (.inl h1)]
    go_enter Try.func27, Try.ntmps27
    go_wp2
    go_ret
    exact ⟨rfl, rfl⟩
  · have h1' : decide (lock < 0) = false := by simpa using h1
    by_cases h2 : (n : Int) ≤ lock
    · rw [if_pos (.inr h2)]
      clear h1
      go_enter Try.func27, Try.ntmps27
      go_wp2
      go_ret
      exact ⟨rfl, rfl⟩
    · have h2' : decide ((n : Int) ≤ lock) = false := by simpa using h2
      rw [if_neg (by omega)]
      by_cases h3 : p < 0
      · rw [if_pos h3]
        clear h1 h2
        go_enter Try.func27, Try.ntmps27
        go_wp2
        go_ret
        exact ⟨rfl, rfl⟩
      · have h3' : decide (p < 0) = false := by simpa using h3
        rw [if_neg h3]
        clear h1 h2 h3
        go_enter Try.func27, Try.ntmps27
        go_wp2
        go_ret
        exact ⟨rfl, rfl⟩

theorem waits_any {w : World} {b m : Nat} {ao : Option Addr} {co : Nat} {aq : Option Addr} {cq : Nat} {os : List Int} {es : List Qe} {f : Int → Option Int} {n : Nat} (h : LM w b m ao co aq cq os es f n) {p : Int} (hp : Fit64 p) :
    Calls Try.prog 28 #[.pointer (some ⟨b, 0, none⟩), .int .i64 p] w fun e w' => e = .returned (.tuple #[.int .i64 ((f p).getD 0), .bool (f p).isSome]) ∧ w' = w := by
  have c2 := h.lb.c2
  have hl := h.map.look hp
  clear h
  generalize (f p).getD 0 = r1 at *
  generalize (f p).isSome = r2 at *
  go_enter Try.func28, Try.ntmps28
  go_wp2
  go_ret2
  exact ⟨rfl, rfl⟩

theorem copied_any {w : World} {a : Option Addr} {n c : Nat} {xs : List Value} (hR : Rd w a xs) (hl : xs.length = n) (h1 : ∀ u ∈ xs, u.oneCell' = true) (hn : n ≤ 8796093022208) :
    Calls Try.prog 26 #[.slice a n c] w fun e w' => ∃ a' c', e = .returned (.slice a' n c') ∧ Row w' 3 1 a' n c' xs ∧ Below w.heap.size w w' ∧ ∀ k, blk a' = some k → w.heap.size ≤ k := by
  obtain ⟨i, k1, k2, k3, k4⟩ := info_parts infoN
  obtain ⟨a', c', w', m1, m2, m3, m4, _⟩ := run_append_row (P := Try.prog) w 33 3 i _ 1 8 Try.underlying33 k1 k2 k3 k4 rfl (Row.nil (w := w) (e := 3) (size := 1)) (.slice a n c) n xs (hR.src Try.underlying33 (by omega) (by omega) h1) (by unfold maxLen; omega) (by omega)
  simp only [Nat.zero_add, List.nil_append] at m1 m2
  have HB := hd (m3.below (Nat.le_refl _) (fun k _ h => by cases h))
  have HR2 := hd m2
  have HN : Hid (∀ k, blk a' = some k → w.heap.size ≤ k) := hd (fun k hk => by
    rcases m4 k hk with h | h
    · cases h
    · exact h)
  have hap := hd m1
  clear m1 m2 m3 m4 hR h1 hl
  go_enter Try.func26, Try.ntmps26
  go_wp2_with (first | (at_builtin; refine wpList_append_run rfl _ _ _ rfl _ _ _ _ rfl rfl hap.out ?_; clear hap))
  go_ret
  exact ⟨_, _, rfl, HR2.out, HB.out, HN.out⟩

/-- At which place one stands first; -1 if nowhere. -/
def idxF (p : Int) : List Int → Nat → Int
  | [], _ => -1
  | x :: r, k => if p = x then (k : Int) else idxF p r (k + 1)
theorem idxF_drop {p : Int} {q : List Int} {k : Nat} (hk : k < q.length) : idxF p (q.drop k) k = if p = q.getD k 0 then (k : Int) else idxF p (q.drop (k + 1)) (k + 1) := by
  rw [List.drop_eq_getElem_cons hk, idxF, List.getD_eq_getElem?_getD, List.getElem?_eq_getElem hk]
  rfl
theorem idxF_mem {p : Int} {q : List Int} {k : Nat} (h : p ∈ q) : ∃ j, j < q.length ∧ q.getD j 0 = p ∧ idxF p q k = ((k + j : Nat) : Int) := by
  induction q generalizing k with
  | nil => cases h
  | cons x r ih =>
    unfold idxF
    by_cases e : p = x
    · exact ⟨0, by simp, by simp [e], by rw [if_pos e]; simp⟩
    · have hr : p ∈ r := by
        rcases List.mem_cons.1 h with h | h
        · exact absurd h e
        · exact h
      obtain ⟨j, h1, h2, h3⟩ := ih (k := k + 1) hr
      refine ⟨j + 1, by simpa using h1, by simpa using h2, ?_⟩
      rw [if_neg e, h3]
      congr 1
      omega
theorem Rd.int {w : World} {a : Option Addr} {q : List Int} (h : Rd w a (iC q)) (i : Nat) (hi : i < q.length) : ∃ g o, a = some ⟨g, o, none⟩ ∧ w.cell? ⟨g, o + i, none⟩ = some (.int .i64 (q.getD i 0)) := by
  obtain ⟨g, o, h1, h2⟩ := h i _ (iC_at q i hi 0)
  exact ⟨g, o, h1, h2⟩
set_option maxRecDepth 100000 in
set_option maxHeartbeats 1000000 in
theorem index_any {w : World} {a : Option Addr} {c n : Nat} {q : List Int} (hR : Rd w a (iC q)) (hN : Hid (q.length = n)) (hn : n ≤ 8796093022208) (p : Int) :
    Calls Try.prog 38 #[.slice a n c, .int .i64 p] w fun e w' => e = .returned (.int .i64 (idxF p q 0)) ∧ w' = w := by
  have HR := hd hR
  obtain ⟨R, hRes⟩ : ∃ R, Hid (idxF p q 0 = R) := ⟨_, rfl⟩
  rw [hRes.out]
  clear hR
  go_enter Try.func38, Try.ntmps38
  go_wp2_with fail
  go_loopg [5, 8, 9, 10, 11, 12, 13, 14, 15, 16, 18] n (fun k v5 v8 v9 v10 v11 v12 v13 v14 v15 v16 v18 wr => ∃ i : Nat, i + k = n ∧ v8 = .int .i64 (i : Int) ∧ wr = w ∧ Hid (idxF p (q.drop i) i = R))
  case atStart => exact ⟨0, by omega, by go_num, rfl, hd (by simpa using hRes.out)⟩
  case round =>
    obtain ⟨i, hik, rfl, rfl, HE⟩ := hrel
    by_cases h0 : gk = 0
    · subst h0
      have hi : i = n := by omega
      obtain rfl : R = -1 := by rw [← HE.out, List.drop_of_length_le (by rw [hN.out]; omega)]; rfl
      subst hi
      clear hRes HE hik
      go_wp2_with fail
      go_ret
      exact ⟨rfl, rfl⟩
    · have hlt : i < n := by omega
      obtain ⟨g, o, rfl, hc⟩ := HR.out.int i (by rw [hN.out]; exact hlt)
      have HS := idxF_drop (p := p) (q := q) (k := i) (by rw [hN.out]; exact hlt)
      obtain ⟨x, hx⟩ : ∃ x, Hid (q.getD i 0 = x) := ⟨_, rfl⟩
      rw [hx.out] at hc HS
      by_cases he : p = x
      · subst he
        rw [if_pos rfl] at HS
        obtain rfl : R = (i : Int) := by rw [← HE.out, HS]
        clear HS hRes HE hik
        go_wp2_with fail
        go_ret
        exact ⟨rfl, rfl⟩
      · have he' : (p == x) = false := by simpa using he
        rw [if_neg he] at HS
        have HE2 : Hid (idxF p (q.drop (i + 1)) (i + 1) = R) := hd (by rw [← HS]; exact HE.out)
        clear HS HE he hRes
        go_wp2_with fail
        go_roundg (gk - 1)
        case rel => exact ⟨i + 1, by omega, by go_num, rfl, HE2⟩
        case measure => omega
end Go.Proofs.Ytdihbbpndijdoaa
