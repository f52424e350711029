/- Check and Longest. -/
import Derived.Test.YtehapcoppghppaaDoorVW5
namespace Go.Proofs.YtehapcoppghppaaDoor
open Go.RowKit

theorem drop_at (S : List (Nat × Int)) (i : Nat) (h : i < S.length) : S.drop i = S.getD i (0, 0) :: S.drop (i + 1) := by
  rw [List.drop_eq_getElem_cons h, List.getD_eq_getElem?_getD, List.getElem?_eq_getElem h]
  rfl

theorem checkL_arg {l : List Ins} {k h : Int} (hh : h < 0 ∨ 64 < h) : checkL l k h = (1, 0) := if_pos hh
theorem checkL_err {l : List Ins} {k h : Int} (hh : ¬ (h < 0 ∨ 64 < h)) (he : (erL l k).1 ≠ 0) : checkL l k h = erL l k := by unfold checkL; rw [if_neg hh, if_pos he]
theorem checkL_ok {l : List Ins} {k h : Int} (hh : ¬ (h < 0 ∨ 64 < h)) (he : (erL l k).1 = 0) : checkL l k h = chk (spL l) h := by unfold checkL; rw [if_neg hh, if_neg (by simpa using he)]
theorem longL_err {l : List Ins} {k : Int} (he : (erL l k).1 ≠ 0) : longL l k = (0, erL l k) := by unfold longL; rw [if_pos he]
theorem longL_ok {l : List Ins} {k : Int} (he : (erL l k).1 = 0) : longL l k = lng 0 (spL l) := by unfold longL; rw [if_neg (by simpa using he)]
theorem spL_len (l : List Ins) : (spL l).length ≤ l.length := spT_len l l.length

set_option maxRecDepth 100000 in
set_option maxHeartbeats 4000000 in
theorem check8_any (a : Option Addr) (cap : Nat) (l : List Ins) (k h : Int) (w : World) (hP : Prg w a l) (hF : Fld w) :
    Calls Tryd.prog 9 #[.slice a l.length cap, .int .i64 k, .int .i64 h] w fun e w' => e = .returned (.tuple #[.int .i64 (checkL l k h).1, .int .i64 (checkL l k h).2]) ∧ Below w.heap.size w w' := by
  have hHo := holds_any a cap l k w hP hF
  by_cases h1 : h < 0
  · rw [checkL_arg (.inl h1)]
    clear hHo hP hF
    go_enter Tryd.func9, Tryd.ntmps9
    go_wp2_with fail
    go_ret2
    exact ⟨rfl, Below.refl _ _⟩
  · have d1 : decide (h < 0) = false := by simpa using h1
    by_cases h2 : 64 < h
    · rw [checkL_arg (.inr h2)]
      clear hHo hP hF h1
      go_enter Tryd.func9, Tryd.ntmps9
      go_wp2_with fail
      go_ret2
      exact ⟨rfl, Below.refl _ _⟩
    · have d2 : decide (64 < h) = false := by simpa using h2
      have hn : Hid (¬ (h < 0 ∨ 64 < h)) := hd (by omega)
      obtain ⟨R, hR⟩ : ∃ R, Hid (checkL l k h = R) := ⟨_, rfl⟩
      rw [hR.out]
      clear hP hF h1 h2
      go_enter Tryd.func9, Tryd.ntmps9
      go_upto_region 4 with (go_at_call 15; refine hHo.mono ?_; rintro e1 w1 (⟨he, rfl, b1⟩ | ⟨he, ok, v, rfl, ho, b1⟩))
      · have HF : Hid (R = erL l k) := hd (by rw [← hR.out, checkL_err hn.out he])
        clear hR
        generalize erL l k = E at *
        have d0 : (E.1 != 0) = true := by simpa using he
        clear he
        go_wp2_with fail
        go_ret2
        exact ⟨by rw [HF.out]; rfl, b1⟩
      · have HR0 : Hid (R = chk (spL l) h) := hd (by rw [← hR.out, checkL_ok hn.out he])
        have hS : (spL l).length ≤ 256 := Nat.le_trans (spL_len l) ok.len
        clear hHo hR he ok
        obtain ⟨S, hSS⟩ : ∃ S, spL l = S := ⟨_, rfl⟩
        rw [hSS] at ho hS HR0
        clear hSS
        have HO : Hid (Spn w1 w.heap.size v S) := hd ho
        obtain ⟨a1, c1, rfl, hc1, _⟩ := ho.form
        clear ho
        go_wp2_with fail
        go_loopg [32] S.length (fun k v32 wr => ∃ i : Nat, v32 = .int .i64 (i : Int) ∧ i + k = S.length ∧ Hid (R = chk (S.drop i) h ∧ Below w1.heap.size w1 wr))
        case atStart => exact ⟨0, rfl, by omega, hd ⟨HR0.out, Below.refl _ _⟩⟩
        case round =>
          obtain ⟨i, rfl, hik, HH⟩ := hrel
          clear HR0
          by_cases hlt : i < S.length
          · have hlt' : (i : Int) < (S.length : Int) := by omega
            obtain ⟨a', c', e', _, C1⟩ := (HO.out.kept HH.out.2).form
            simp only [Value.slice.injEq] at e'
            obtain ⟨rfl, -, -⟩ := e'
            obtain ⟨g, rfl, hg, k0, k1⟩ := C1 i hlt
            have HD : Hid (R = chk (S.getD i (0, 0) :: S.drop (i + 1)) h) := hd (by rw [← drop_at S i hlt]; exact HH.out.1)
            obtain ⟨⟨q, u⟩, hqu⟩ : ∃ t, Hid (S.getD i (0, 0) = t) := ⟨_, rfl⟩
            rw [hqu.out] at k0 k1 HD
            simp only at k0 k1
            have BA : Below w1.heap.size w1 (wr.alloc (.cells #[.int .i64 (q : Int), .int .i64 u] 45)) := HH.out.2.alloc HH.out.2.size _
            clear C1
            by_cases hu : h < u
            · have HE : Hid (R = (15, (q : Int))) := hd (by rw [HD.out]; unfold chk; rw [if_pos hu])
              clear HD
              go_wp2_with fail
              go_region
              go_wp2_with fail
              go_ret2
              exact ⟨by rw [HE.out]; rfl, b1.trans (BA.drew.mono b1.size)⟩
            · have du : decide (h < u) = false := by simpa using hu
              have HE : Hid (R = chk (S.drop (i + 1)) h) := hd (by rw [HD.out]; unfold chk; rw [if_neg hu]; cases S.drop (i + 1) <;> rfl)
              clear HD
              go_wp2_with fail
              go_roundg (gk - 1)
              case measure => omega
              case rel => exact ⟨i + 1, by go_num, by omega, hd ⟨HE.out, BA⟩⟩
          · have hltd : decide ((i : Int) < (S.length : Int)) = false := by simp; omega
            have HE : Hid (R = (0, 0)) := hd (by rw [HH.out.1, List.drop_eq_nil_of_le (by omega)]; rfl)
            go_wp2_with fail
            go_ret2
            exact ⟨by rw [HE.out]; rfl, b1.trans (HH.out.2.mono b1.size)⟩

set_option maxRecDepth 100000 in
set_option maxHeartbeats 4000000 in
theorem longest_any (a : Option Addr) (cap : Nat) (l : List Ins) (k : Int) (w : World) (hP : Prg w a l) (hF : Fld w) :
    Calls Tryd.prog 11 #[.slice a l.length cap, .int .i64 k] w fun e w' => e = .returned (.tuple #[.int .i64 (longL l k).1, .int .i64 (longL l k).2.1, .int .i64 (longL l k).2.2]) ∧ Below w.heap.size w w' := by
  have hHo := holds_any a cap l k w hP hF
  obtain ⟨R, hR⟩ : ∃ R, Hid (longL l k = R) := ⟨_, rfl⟩
  rw [hR.out]
  clear hP hF
  go_enter Tryd.func11, Tryd.ntmps11
  go_upto_region 2 with (go_at_call 15; refine hHo.mono ?_; rintro e1 w1 (⟨he, rfl, b1⟩ | ⟨he, ok, v, rfl, ho, b1⟩))
  · have HF : Hid (R = (0, erL l k)) := hd (by rw [← hR.out, longL_err he])
    clear hR
    generalize erL l k = E at *
    have d0 : (E.1 != 0) = true := by simpa using he
    clear he
    go_wp2_with fail
    go_ret3
    exact ⟨by rw [HF.out]; rfl, b1⟩
  · have HR0 : Hid (R = lng 0 (spL l)) := hd (by rw [← hR.out, longL_ok he])
    have hS : (spL l).length ≤ 256 := Nat.le_trans (spL_len l) ok.len
    clear hHo hR he ok
    obtain ⟨S, hSS⟩ : ∃ S, spL l = S := ⟨_, rfl⟩
    rw [hSS] at ho hS HR0
    clear hSS
    have HO : Hid (Spn w1 w.heap.size v S) := hd ho
    obtain ⟨a1, c1, rfl, hc1, _⟩ := ho.form
    clear ho
    go_wp2_with fail
    go_loopg [10, 26] S.length (fun k v10 v26 wr => ∃ (i : Nat) (z : Int), v10 = .int .i64 z ∧ v26 = .int .i64 (i : Int) ∧ i + k = S.length ∧ Hid (R = lng z (S.drop i) ∧ Below w1.heap.size w1 wr))
    case atStart => exact ⟨0, 0, rfl, rfl, by omega, hd ⟨HR0.out, Below.refl _ _⟩⟩
    case round =>
      obtain ⟨i, z, rfl, rfl, hik, HH⟩ := hrel
      clear HR0
      by_cases hlt : i < S.length
      · have hlt' : (i : Int) < (S.length : Int) := by omega
        obtain ⟨a', c', e', _, C1⟩ := (HO.out.kept HH.out.2).form
        simp only [Value.slice.injEq] at e'
        obtain ⟨rfl, -, -⟩ := e'
        obtain ⟨g, rfl, hg, k0, k1⟩ := C1 i hlt
        have HD : Hid (R = lng z (S.getD i (0, 0) :: S.drop (i + 1))) := hd (by rw [← drop_at S i hlt]; exact HH.out.1)
        obtain ⟨⟨q, u⟩, hqu⟩ : ∃ t, Hid (S.getD i (0, 0) = t) := ⟨_, rfl⟩
        rw [hqu.out] at k0 k1 HD
        simp only at k0 k1
        have BA : Below w1.heap.size w1 (wr.alloc (.cells #[.int .i64 (q : Int), .int .i64 u] 45)) := HH.out.2.alloc HH.out.2.size _
        clear C1
        by_cases hu : u = 9223372036854775807
        · have du : (u == 9223372036854775807) = true := by simpa using hu
          have HE : Hid (R = (0, 15, (q : Int))) := hd (by rw [HD.out]; unfold lng; rw [if_pos (show u = INF from hu)])
          clear HD hu
          go_wp2_with fail
          go_region
          go_wp2_with fail
          go_ret3
          exact ⟨by rw [HE.out]; rfl, b1.trans (BA.drew.mono b1.size)⟩
        · have du : (u == 9223372036854775807) = false := by simpa using hu
          have HE : Hid (R = lng (max z u) (S.drop (i + 1))) := hd (by rw [HD.out]; conv => lhs; unfold lng; rw [if_neg (show ¬ u = INF from hu)])
          clear HD hu
          by_cases hzu : z < u
          · have HE' : Hid (R = lng u (S.drop (i + 1))) := hd (by rw [HE.out, show max z u = u by omega])
            clear HE
            go_wp2_with fail
            go_roundg (gk - 1)
            case measure => omega
            case rel => exact ⟨i + 1, u, rfl, by go_num, by omega, hd ⟨HE'.out, BA⟩⟩
          · have hzu' : u ≤ z := by omega
            have HE' : Hid (R = lng z (S.drop (i + 1))) := hd (by rw [HE.out, show max z u = z by omega])
            clear HE
            go_wp2_with fail
            go_roundg (gk - 1)
            case measure => omega
            case rel => exact ⟨i + 1, z, rfl, by go_num, by omega, hd ⟨HE'.out, BA⟩⟩
      · have hltd : decide ((i : Int) < (S.length : Int)) = false := by simp; omega
        have HE : Hid (R = (z, 0, 0)) := hd (by rw [HH.out.1, List.drop_eq_nil_of_le (by omega)]; rfl)
        go_wp2_with fail
        go_ret3
        exact ⟨by rw [HE.out]; rfl, b1.trans (HH.out.2.mono b1.size)⟩
end Go.Proofs.YtehapcoppghppaaDoor
