/- The lines of a text. -/
import Derived.Test.YtalaajniammggaaGreatDoorZRc
import Derived.Test.YtalaajniammggaaGreatDoorZAg
namespace Go.Proofs.YtalaajniammggaaGreatDoor
open Go.RowKit

theorem own_noneS (w : World) : (w.alloc (.cells #[] 9)).ownsRow w.heap.size 9 1 (.slice (some ⟨w.heap.size, 0, none⟩) 0 0) 0 (strsV []) :=
  ⟨by simp [strsV], .inr ⟨w.heap.size, 0, #[], rfl, Nat.le_refl _, heap_alloc_new w _, by simp, by unfold maxLen; omega, by simp, by simp [strsV]⟩⟩

theorem getD_at {s : ByteArray} {i : Nat} (hi : i < s.size) {c : UInt8} (hc : s[i] = c) : s.data.toList.getD i 0 = c := by
  have hl : i < s.data.toList.length := by rw [szl]; exact hi
  rw [List.getD_eq_getElem?_getD, List.getElem?_eq_getElem hl, Option.getD_some]
  rw [← hc]
  rfl

set_option maxRecDepth 100000 in
set_option maxHeartbeats 2000000 in
theorem lines_any (s : ByteArray) (hs : s.size ≤ 1000000) (w : World) :
    Calls Tryz.prog 18 #[.string s] w fun e w' => ∃ a cap n, e = .returned (.slice a n cap) ∧ StrAt w' a (upL s.data.toList s.size).1 ∧ (upL s.data.toList s.size).1.length = n ∧ Below w.heap.size w w' := by
  obtain ⟨i0, hi0, hz0, hz1, hz2⟩ := info_parts info9
  obtain ⟨R, hR⟩ : ∃ R, Hid ((upL s.data.toList s.size).1 = R) := ⟨_, rfl⟩
  rw [hR.out]
  have HO0 := own_noneS w
  have HB0 : Below w.heap.size w (w.alloc (.cells #[] 9)) := (Below.refl _ w).alloc (Nat.le_refl _) _
  go_enter Tryz.func18, Tryz.ntmps18
  go_wp2_with fail
  go_loopw [3, 4, 5, 9] (fun s3 s4 _ s9 wr => ∃ (i fr n : Nat) (L : List (List UInt8)), s9 = .int .i64 i ∧ i ≤ s.size ∧ s4 = .int .i64 fr ∧ fr ≤ i ∧ n ≤ i ∧ wr.ownsRow w.heap.size 9 1 s3 n (strsV L) ∧ Hid (upL s.data.toList i = (L, fr) ∧ L.length = n) ∧ Below w.heap.size w wr) (fun _ _ _ s9 _ => s.size - (intOf s9).toNat)
  case atStart => exact ⟨0, 0, 0, [], rfl, by omega, rfl, by omega, by omega, HO0, Lib.hid ⟨rfl, rfl⟩, HB0⟩
  case round =>
    clear HO0 HB0
    obtain ⟨i, fr, n, L, rfl, hi, rfl, hfr, hn, hown, HI, hb⟩ := hrel
    have hsz := hb.size
    by_cases hlt : i < s.size
    · have hlt' : (i : Int) < (s.size : Int) := by omega
      obtain ⟨c, hc⟩ : ∃ c, s[i] = c := ⟨_, rfl⟩
      have hgd := getD_at hlt hc
      by_cases h10 : c = 10
      · have d : ((c.toNat : Int) == 10) = true := by subst h10; rfl
        obtain ⟨P, hP⟩ : ∃ P : ByteArray, Hid (s.extract fr i = P) := ⟨_, rfl⟩
        have hsl : ∀ W, (Instr.slice 9 (.string s) (some (.int .i64 (fr : Int))) (some (.int .i64 (i : Int))) none).run Tryz.prog W = .ok (.string P) W := fun W => by
          have c1 : (fr : Int) ≤ (i : Int) := by omega
          have c2 : (i : Int) ≤ (s.size : Int) := by omega
          rw [← hP.out]
          simp [go_sem, c1, c2]
        have HI' : Hid (upL s.data.toList (i + 1) = (L ++ [P.data.toList], i + 1) ∧ (L ++ [P.data.toList]).length = n + 1) := Lib.hid ⟨by
          rw [upL, hgd, if_pos h10, HI.out.1, ← hP.out, ext_list], by simp [HI.out.2]⟩
        have hbk : (⟨P.data.toList.toArray⟩ : ByteArray) = P := ba_back P
        clear HI hgd h10 hP
        go_wp2_with (at_builtin; refine wpList_append_own _ rfl _ _ 39 rfl w.heap.size 9 i0 (.string ⟨#[]⟩) 1 16 Tryz.underlying39 hi0 hz0 hz1 hz2 rfl (by decide) _ _ _ rfl (hown.alloc _) ⟨_, 0, none⟩ 1 1 [.string P] rfl rfl (cell_one_new _ _ _) (by simp [Value.oneCell']) (by unfold maxLen; omega) (by omega) (by simp; omega) ?_; intro v1 w4 hown1 hgrow1 hx1)
        have hown4 : w4.ownsRow w.heap.size 9 1 v1 (n + 1) (strsV (L ++ [P.data.toList])) := by rw [← strsV_snoc, hbk]; exact hown1
        have hb4 : Below w.heap.size w w4 := (hb.alloc hsz _).grown hgrow1 (by simp; omega) (fun j hj => (hown.lt j hj).1)
        clear hown1 hgrow1 hx1
        first
          | exact ⟨⟨i + 1, i + 1, n + 1, _, by go_num, by omega, by go_num, by omega, by omega, hown4, HI', hb4⟩, by simp [intOf]; omega⟩
          | (go_roundw
             case rel => exact ⟨i + 1, i + 1, n + 1, _, by go_num, by omega, by go_num, by omega, by omega, hown4, HI', hb4⟩
             case measure => simp [intOf]; omega)
      · have d : ((c.toNat : Int) == 10) = false := by
          rw [beq_eq_false_iff_ne]
          intro h
          exact h10 (UInt8.toNat_inj.1 (by have : c.toNat = 10 := by omega
                                           rw [this]; rfl))
        have HI' : Hid (upL s.data.toList (i + 1) = (L, fr) ∧ L.length = n) := Lib.hid ⟨by rw [upL, hgd, if_neg h10, HI.out.1], HI.out.2⟩
        clear HI hgd h10
        go_wp2_with fail
        first
          | exact ⟨⟨i + 1, fr, n, L, by go_num, by omega, rfl, by omega, by omega, hown, HI', hb⟩, by simp [intOf]; omega⟩
          | (go_roundw
             case rel => exact ⟨i + 1, fr, n, L, by go_num, by omega, rfl, by omega, by omega, hown, HI', hb⟩
             case measure => simp [intOf]; omega)
    · have hltd : decide ((i : Int) < (s.size : Int)) = false := by simp; omega
      have ei : i = s.size := by omega
      have HE : Hid (L = R ∧ R.length = n) := Lib.hid (by
        have h1 := HI.out.1
        rw [ei] at h1
        have h2 : R = L := by rw [← hR.out, h1]
        exact ⟨h2.symm, by rw [h2]; exact HI.out.2⟩)
      obtain ⟨a, cap, rfl⟩ := own_slice hown
      clear HI ei hR
      go_wp2_with fail
      go_ret
      exact ⟨a, cap, n, rfl, str_of_own (by rw [← HE.out.1]; exact hown) HE.out.2, HE.out.2, hb⟩
end Go.Proofs.YtalaajniammggaaGreatDoor
