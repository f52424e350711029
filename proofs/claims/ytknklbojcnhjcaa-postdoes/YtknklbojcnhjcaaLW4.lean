/- without: one taken out of a list of the lane's own. -/
import Derived.Test.YtknklbojcnhjcaaLW3
import Derived.Deep.RegionWith
namespace Go.Proofs.Ytknklbojcnhjcaa
open Go.RowKit

/-- What the copy leaves, one taken out. -/
theorem shift_row {P : Program} {w : World} {T e : TypeId} {size g n cap i : Nat} {xs : List Value} (hu : P.underlying T = some (.slice e)) (hs : (P.info? e).map (·.size) = some size)
    (hR : Row w e size (some ⟨g, 0, none⟩) n cap xs) (hi : i + 1 < n) (h1 : ∀ v ∈ xs, v.oneCell' = true) :
    ∃ w', (∀ ty, (Builtin.copy_ #[T, T] ty #[.slice (some ⟨g, i * size, none⟩) (n - i) (cap - i), .slice (some ⟨g, (i + 1) * size, none⟩) (n - (i + 1)) (cap - (i + 1))]).run P w = .ok (goInt ((n - (i + 1) : Nat) : Int)) w') ∧
      Row w' e size (some ⟨g, 0, none⟩) (n - 1) (n - 1) (xs.take (i * size) ++ xs.drop ((i + 1) * size)) ∧ Mod (fun k => k = g) w w' := by
  obtain ⟨r1, r2, r3, ⟨r4, _⟩ | ⟨g', cur, r4, hg, hsz, htk⟩⟩ := hR
  · cases r4
  · cases r4
    have hmin : Nat.min (n - (i + 1)) (n - i) = n - (i + 1) := Nat.min_eq_left (by omega)
    have hcl : (xs.drop ((i + 1) * size)).length = (n - (i + 1)) * size := by rw [List.length_drop, r1, Nat.sub_mul]
    have hnc : n * size ≤ cap * size := Nat.mul_le_mul_right _ r2
    have hik : (i + 1) * size ≤ n * size := Nat.mul_le_mul_right _ (by omega)
    have hii : i * size + size = (i + 1) * size := by rw [Nat.add_mul, Nat.one_mul]
    have hsub : (n - (i + 1)) * size = n * size - (i + 1) * size := Nat.sub_mul _ _ _
    have hfit : i * size + (xs.drop ((i + 1) * size)).length ≤ cur.size := by rw [hcl]; omega
    have hc := fun ty => run_copy_sz (P := P) w T T ty e size g (i * size) (n - i) (cap - i) ⟨g, (i + 1) * size, none⟩ (n - (i + 1)) (cap - (i + 1)) cur e (xs.drop ((i + 1) * size)) hu hs hg (by rw [hmin]; exact hcl)
      (fun j v hj => by
        rw [addr_add, cell_of_row _ _ _ _ _ _ hg]
        rw [List.getElem?_drop, ← htk, List.getElem?_take] at hj
        split at hj
        · simpa using hj
        · cases hj) hfit (fun v hv => h1 v (List.mem_of_mem_drop hv))
    rw [hmin] at hc
    refine ⟨_, hc, ?_, (Mod.refl (fun k => k = g) w).setRow (.inl rfl) _⟩
    have hn1 : (n - 1) * size = n * size - size := by rw [Nat.sub_mul, Nat.one_mul]
    have htl : (xs.take (i * size) ++ xs.drop ((i + 1) * size)).length = (n - 1) * size := by
      rw [List.length_append, List.length_take, hcl, r1, Nat.min_eq_left (by omega)]
      omega
    refine ⟨htl, Nat.le_refl _, by omega, .inr ⟨g, _, rfl, setRow_heap _ _ _ _ _ _ hg, ?_, ?_⟩⟩
    · simp [hcl]
      omega
    · have e1 : cur.toList.take (i * size) = xs.take (i * size) := by rw [← htk, List.take_take, Nat.min_eq_left (by omega)]
      simp only
      rw [e1, ← htl, List.take_left]

theorem cut_row {w : World} {e : TypeId} {size g n cap : Nat} {xs : List Value} (hR : Row w e size (some ⟨g, 0, none⟩) n cap xs) (hn : 0 < n) : Row w e size (some ⟨g, 0, none⟩) (n - 1) (n - 1) (xs.take ((n - 1) * size) ++ xs.drop (((n - 1) + 1) * size)) := by
  have := hR.cut (n - 1) (n - 1) (by omega) (Nat.le_refl _) (by have := hR.capLe; omega) (fun h => by cases h)
  rwa [List.drop_of_length_le (by rw [hR.len, Nat.sub_add_cancel hn]; exact Nat.le_refl _), List.append_nil]

def WOut (w : World) (e : TypeId) (size g n : Nat) (xs : List Value) (E : Ending) (w' : World) : Prop :=
  E = .returned (.slice (some ⟨g, 0, none⟩) n n) ∧ Row w' e size (some ⟨g, 0, none⟩) n n xs ∧ Mod (fun k => k = g) w w'

theorem without_i {g cap i : Nat} {vs : List Int} {w : World} (hR : Row w 2 1 (some ⟨g, 0, none⟩) vs.length cap (iC vs)) (hi : i < vs.length) :
    Calls Try.prog 63 #[.slice (some ⟨g, 0, none⟩) vs.length cap, .int .i64 i] w (WOut w 2 1 g (vs.length - 1) (iC (vs.eraseIdx i))) := by
  obtain ⟨Q, hQ⟩ : ∃ Q, Hid (WOut w 2 1 g (vs.length - 1) (iC (vs.eraseIdx i)) = Q) := ⟨_, rfl⟩
  rw [hQ.out]
  have hE : iC (vs.eraseIdx i) = (iC vs).take (i * 1) ++ (iC vs).drop ((i + 1) * 1) := by rw [← erase_eq, iC_app, iC_take, iC_drop]
  have h1 := hR.capLe
  have h2 : cap < 9223372036854775807 + 1 := by have := hR.2.2.1; unfold maxLen at this; omega
  have HR : Hid (Row w.drew 2 1 (some ⟨g, 0, none⟩) vs.length cap (iC vs)) := hd (hR.below ((Below.refl _ w).drew))
  have HM : Hid (Mod (fun k => k = g) w w.drew) := hd (Mod.of_below _ ((Below.refl _ w).drew))
  clear hR
  obtain ⟨n, hN⟩ : ∃ n, Hid (vs.length = n) := ⟨_, rfl⟩
  rw [hN.out] at hi h1 HR hQ ⊢
  have k1 : (i : Int) ≤ n := by omega
  have k2 : (i : Int) + 1 ≤ n := by omega
  have k3 : (n : Int) ≤ cap := by omega
  have k4 : cap ≠ i := by omega
  have k5 : (0 : Int) ≤ (n : Int) - 1 := by omega
  have k7 : (n : Int) - 1 = ((n - 1 : Nat) : Int) := by omega
  obtain ⟨m, hm⟩ : ∃ m, Hid (n - 1 = m) := ⟨_, rfl⟩
  rw [hm.out] at k7 hQ
  have k8 : m ≤ cap := by have := hm.out; omega
  by_cases hlast : i + 1 < n
  · have k6 : cap ≠ i + 1 := by omega
    obtain ⟨w2, hcp, R2, M2⟩ := shift_row (P := Try.prog) Try.underlying26 sizeI HR.out hlast (iC_one vs)
    simp only [Nat.mul_one] at hcp
    have HF : Hid (Q (.returned (.slice (some ⟨g, 0, none⟩) m m)) w2) := hd (by
      rw [← hQ.out]
      exact ⟨rfl, by rw [hE, ← hm.out]; exact R2, HM.out.trans M2 (fun _ h => .inl h)⟩)
    clear R2 M2 hE HR HM
    go_enter Try.func63, Try.ntmps63
    go_wp2_with fail
    go_region
    go_wp2_with fail
    exact HF.out
  · have hz := fun ty d dl dc a sc => run_copy_zero (P := Try.prog) w.drew 26 26 ty 2 1 d a dl dc 0 sc Try.underlying26 sizeI (by simp)
    have e0 : n - (i + 1) = 0 := by omega
    have HF : Hid (Q (.returned (.slice (some ⟨g, 0, none⟩) m m)) w.drew) := hd (by
      rw [← hQ.out]
      refine ⟨rfl, ?_, HM.out⟩
      have := cut_row HR.out (by omega)
      rw [hE, ← hm.out]
      have ei : i = n - 1 := by omega
      rw [ei]
      exact this)
    clear hE HR HM
    by_cases hcap : cap = i + 1
    · obtain rfl : n = i + 1 := by omega
      subst hcap
      obtain rfl : m = i := by have := hm.out; omega
      go_enter Try.func63, Try.ntmps63
      go_wp2_with fail
      go_region
      go_wp2_with fail
      exact HF.out
    · go_enter Try.func63, Try.ntmps63
      go_wp2_with fail
      go_region
      go_wp2_with fail
      exact HF.out
theorem without_w {g cap i : Nat} {ws : List (Int × Int)} {w : World} (hR : Row w 52 2 (some ⟨g, 0, none⟩) ws.length cap (wC ws)) (hi : i < ws.length) :
    Calls Try.prog 65 #[.slice (some ⟨g, 0, none⟩) ws.length cap, .int .i64 i] w (WOut w 52 2 g (ws.length - 1) (wC (ws.eraseIdx i))) := by
  obtain ⟨Q, hQ⟩ : ∃ Q, Hid (WOut w 52 2 g (ws.length - 1) (wC (ws.eraseIdx i)) = Q) := ⟨_, rfl⟩
  rw [hQ.out]
  have hE : wC (ws.eraseIdx i) = (wC ws).take (i * 2) ++ (wC ws).drop ((i + 1) * 2) := by rw [← erase_eq, wC_app, wC_take, wC_drop]
  have h1 := hR.capLe
  have h2 : cap < 9223372036854775807 + 1 := by have := hR.2.2.1; unfold maxLen at this; omega
  have HR : Hid (Row w.drew 52 2 (some ⟨g, 0, none⟩) ws.length cap (wC ws)) := hd (hR.below ((Below.refl _ w).drew))
  have HM : Hid (Mod (fun k => k = g) w w.drew) := hd (Mod.of_below _ ((Below.refl _ w).drew))
  clear hR
  obtain ⟨n, hN⟩ : ∃ n, Hid (ws.length = n) := ⟨_, rfl⟩
  rw [hN.out] at hi h1 HR hQ ⊢
  have k1 : (i : Int) ≤ n := by omega
  have k2 : (i : Int) + 1 ≤ n := by omega
  have k3 : (n : Int) ≤ cap := by omega
  have k4 : cap ≠ i := by omega
  have k5 : (0 : Int) ≤ (n : Int) - 1 := by omega
  have k7 : (n : Int) - 1 = ((n - 1 : Nat) : Int) := by omega
  obtain ⟨m, hm⟩ : ∃ m, Hid (n - 1 = m) := ⟨_, rfl⟩
  rw [hm.out] at k7 hQ
  have k8 : m ≤ cap := by have := hm.out; omega
  by_cases hlast : i + 1 < n
  · have k6 : cap ≠ i + 1 := by omega
    obtain ⟨w2, hcp, R2, M2⟩ := shift_row (P := Try.prog) Try.underlying27 sizeW HR.out hlast (wC_one ws)
    have HF : Hid (Q (.returned (.slice (some ⟨g, 0, none⟩) m m)) w2) := hd (by
      rw [← hQ.out]
      exact ⟨rfl, by rw [hE, ← hm.out]; exact R2, HM.out.trans M2 (fun _ h => .inl h)⟩)
    clear R2 M2 hE HR HM
    go_enter Try.func65, Try.ntmps65
    go_wp2_with fail
    go_region
    go_wp2_with fail
    exact HF.out
  · have hz := fun ty d dl dc a sc => run_copy_zero (P := Try.prog) w.drew 27 27 ty 52 2 d a dl dc 0 sc Try.underlying27 sizeW (by simp)
    have e0 : n - (i + 1) = 0 := by omega
    have HF : Hid (Q (.returned (.slice (some ⟨g, 0, none⟩) m m)) w.drew) := hd (by
      rw [← hQ.out]
      refine ⟨rfl, ?_, HM.out⟩
      have := cut_row HR.out (by omega)
      rw [hE, ← hm.out]
      have ei : i = n - 1 := by omega
      rw [ei]
      exact this)
    clear hE HR HM
    by_cases hcap : cap = i + 1
    · obtain rfl : n = i + 1 := by omega
      subst hcap
      obtain rfl : m = i := by have := hm.out; omega
      go_enter Try.func65, Try.ntmps65
      go_wp2_with fail
      go_region
      go_wp2_with fail
      exact HF.out
    · go_enter Try.func65, Try.ntmps65
      go_wp2_with fail
      go_region
      go_wp2_with fail
      exact HF.out
end Go.Proofs.Ytknklbojcnhjcaa
