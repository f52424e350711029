/- Program and document print and read alike. -/
import Derived.Test.YtadlppllbebkdaaGreatDoorZPg
import Derived.Test.YtadlppllbebkdaaGreatDoorZEg
import Derived.BigQuiet
namespace Go.Proofs.YtadlppllbebkdaaGreatDoor
open Go.RowKit

/-- Print: the same text. -/
theorem print_same (b : Int) : ∃ T : ByteArray, (∀ W, All W → Calls Tryz.prog 12 #[.int .i64 b] W fun e w' => e = .returned (.string T) ∧ Below W.heap.size W w') ∧ (∀ W, Calls Tryz.prog 13 #[.int .i64 b] W fun e w' => e = .returned (.string T) ∧ Below W.heap.size W w') :=
  ⟨_, fun W A => print_any b W A.tabs A.rowz A.zer, fun W => rprint_any b W⟩

/-- Parse: the same bits, the same error. -/
theorem parse_same (s : ByteArray) (hs : s.size ≤ 140737488355328) : ∃ y k : Int, (∀ W, All W → Calls Tryz.prog 14 #[.string s] W fun e w' => e = .returned (.tuple #[.int .i64 y, .int .i64 k]) ∧ Below W.heap.size W w') ∧ (∀ W, Calls Tryz.prog 15 #[.string s] W fun e w' => e = .returned (.tuple #[.int .i64 y, .int .i64 k]) ∧ Below W.heap.size W w') := by
  by_cases h : ∃ x, x < 18446744073709551616 ∧ printL x = s.data.toList
  · obtain ⟨x, hx, hp⟩ := h
    have es : s = ⟨(printL x).toArray⟩ := ba_same (by rw [hp])
    refine ⟨wrap64 (x : Int), 0, fun W A => ?_, fun W => ?_⟩
    · rw [es]; exact parse_right' atof_right x hx W A
    · refine (rparse_any s W).mono ?_
      rintro e w' ⟨v, rfl, hv, b⟩
      rcases hv with ⟨rfl, hn⟩ | ⟨b', rfl, hb, hp'⟩
      · exact absurd hp (hn x hx)
      · rw [print_inj hb hx (hp'.trans hp.symm)]
        exact ⟨rfl, b⟩
  · refine ⟨0, 4, fun W A => ?_, fun W => ?_⟩
    · refine (parse_total atof_total s hs W A).mono ?_
      rintro e w' ⟨b, k, hbk, rfl, hb⟩
      rcases hbk with ⟨rfl, rfl⟩ | ⟨_, _, _, hp⟩
      · exact ⟨rfl, hb⟩
      · exact absurd ⟨wd b, wd_lt b, hp⟩ h
    · refine (rparse_any s W).mono ?_
      rintro e w' ⟨v, rfl, hv, b⟩
      rcases hv with ⟨rfl, _⟩ | ⟨b', rfl, hb, hp'⟩
      · exact ⟨rfl, b⟩
      · exact absurd ⟨b', hb, hp'⟩ h

/-- A list of values that came in. -/
def Ls (w : World) (a : Option Addr) (vs : List Value) : Prop := vs ≠ [] → ∃ b o, a = some ⟨b, o, none⟩ ∧ ∀ i u, vs[i]? = some u → w.cell? ⟨b, o + i, none⟩ = some u
theorem Ls.kept {w w' : World} {a : Option Addr} {vs : List Value} (h : Ls w a vs) (hb : Below w.heap.size w w') : Ls w' a vs := fun hne => by
  obtain ⟨b, o, e, hc⟩ := h hne
  exact ⟨b, o, e, fun i u hu => (hb.cell (World.block_lt_of_cell? w _ (hc i u hu))).trans (hc i u hu)⟩

structure KW (w : World) where
  val : World
  kp : Below w.heap.size w val

/-- A region that draws its order and whose calls leave worlds of a family: one walk, in the order of the text. -/
theorem wp_region_family {P : Program} {id : Nat} {Q : Exit → Act → World → Prop} {a : Act} {w : World} {l : List Oper} {α : Type} (f : α → World) (hm : P.follows .mixedOrders = true) (hB : Region.lexB .any l.toArray = true)
    (p0 : α) (h0 : f p0 = w.drew) (h : wpQuiet P l.toArray (fun w' => ∃ p, w' = f p) (fun a' => ∀ w', (∃ p, w' = f p) → Q .normal a' w') l a) : (Code.region id l.toArray true).wp P Q a w :=
  wp_region_quiet (C := fun w' => ∃ p, w' = f p) hm hB ⟨p0, h0.symm⟩ (by simpa using h)

set_option maxRecDepth 100000 in
set_option maxHeartbeats 4000000 in
theorem fltPrints_walk (a1 a2 : Option Addr) (zs : List Int) (ss : List ByteArray) (c1 c2 : Nat) (l1 : zs.length ≤ c1) (l2 : ss.length ≤ c2) (m1 : c1 ≤ 9223372036854775807) (m2 : c2 ≤ 9223372036854775807) (hs : ∀ s, s ∈ ss → s.size ≤ 140737488355328) (w : World) (A : All w)
    (L1 : Ls w a1 (zs.map (Value.int .i64))) (L2 : Ls w a2 (ss.map Value.string)) :
    Calls Tryz.prog 5 #[.slice a1 zs.length c1, .slice a2 ss.length c2] w fun e w' => e = .returned (.bool true) ∧ Below w.heap.size w w' := by
  have HA := Lib.hid A
  have H1 := Lib.hid L1
  have H2 := Lib.hid L2
  have HS := Lib.hid hs
  clear A L1 L2 hs
  obtain ⟨n1, hn1⟩ : ∃ n, Hid (zs.length = n) := ⟨_, Lib.hid rfl⟩
  obtain ⟨n2, hn2⟩ : ∃ n, Hid (ss.length = n) := ⟨_, Lib.hid rfl⟩
  rw [hn1.out] at l1 ⊢
  rw [hn2.out] at l2 ⊢
  go_enter Tryz.func5, Tryz.ntmps5
  go_upto_block 0 with fail
  go_cut [5] from 11 to 27 (fun _ wy => Hid (Below w.heap.size w wy))
  case first =>
    go_wp2_with fail
    go_loopw [5] (fun s5 wr => ∃ i : Nat, s5 = .int .i64 i ∧ i ≤ n1 ∧ Hid (Below w.heap.size w wr)) (fun s5 _ => n1 - (intOf s5).toNat)
    case atStart => exact ⟨0, rfl, by omega, Lib.hid (Below.refl _ _)⟩
    case round =>
      obtain ⟨i, rfl, hi, HB⟩ := hrel
      by_cases hlt : i < n1
      · have hlt' : (i : Int) < (n1 : Int) := by omega
        have hz : i < zs.length := by rw [hn1.out]; exact hlt
        obtain ⟨z, ez⟩ : ∃ z, Hid (zs[i]? = some z) := ⟨_, Lib.hid (List.getElem?_eq_getElem hz)⟩
        obtain ⟨b, o, ea, hc⟩ := H1.out (fun e => by
          have := congrArg List.length e
          simp at this
          rw [this] at hz
          simp at hz)
        have hcell : ∀ p : KW w, p.val.cell? ⟨b, o + i, none⟩ = some (.int .i64 z) := fun p => by
          have h9 := hc i (.int .i64 z) (by rw [List.getElem?_map, ez.out]; rfl)
          exact (p.kp.cell (World.block_lt_of_cell? w _ h9)).trans h9
        obtain ⟨T, t1, t2⟩ := print_same z
        have q1 : ∀ p : KW w, Calls Tryz.prog 12 #[.int .i64 z] p.val fun e w'' => e = .returned (.string T) ∧ ∃ p' : KW w, w'' = p'.val := fun p => (t1 p.val (HA.out.kept p.kp)).mono fun e w'' h => ⟨h.1, ⟨w'', p.kp.trans (h.2.mono p.kp.size)⟩, rfl⟩
        have q2 : ∀ p : KW w, Calls Tryz.prog 13 #[.int .i64 z] p.val fun e w'' => e = .returned (.string T) ∧ ∃ p' : KW w, w'' = p'.val := fun p => (t2 p.val).mono fun e w'' h => ⟨h.1, ⟨w'', p.kp.trans (h.2.mono p.kp.size)⟩, rfl⟩
        have nek : Nonempty (KW w) := ⟨⟨w, Below.refl _ _⟩⟩
        subst ea
        clear t1 t2 hc H1 H2 HS ez hn1 hn2 hz
        go_wp2_with fail
        refine wp_region_family (α := KW w) KW.val (by kernel_rfl) (by kernel_rfl) ⟨wr.drew, below_drewN HB.out 1⟩ rfl ?_
        repeat (go_big_quiet_step (first | with_reducible exact q1 _ | with_reducible exact q2 _))
        refine wpQuiet_nil ?_
        rintro w' ⟨p, rfl⟩
        have HP := Lib.hid p.kp
        generalize p.val = wp at *
        go_wp2_with fail
        exact ⟨⟨i + 1, rfl, hlt, HP⟩, by simp [intOf] <;> omega⟩
      · have hlt' : decide ((i : Int) < (n1 : Int)) = false := by simp; omega
        have hlt'' : (n1 : Int) ≤ (i : Int) := by omega
        go_wp2_with fail
        go_meet
        exact HB
  case rest =>
    have HB := hcut
    clear hcut
    go_upto_block 2 with fail
    go_cut [6, 7, 8, 9, 10] from 28 to 57 (fun _ _ _ _ _ wy => Hid (Below w.heap.size w wy))
    case first =>
      go_wp2_with fail
      go_loopw [6, 7, 8, 9, 10] (fun s6 _ _ _ _ wr => ∃ i : Nat, s6 = .int .i64 i ∧ i ≤ n2 ∧ Hid (Below w.heap.size w wr)) (fun s6 _ _ _ _ _ => n2 - (intOf s6).toNat)
      case atStart => exact ⟨0, rfl, by omega, HB⟩
      case round =>
        clear HB
        obtain ⟨i, rfl, hi, HB⟩ := hrel
        by_cases hlt : i < n2
        · have hlt' : (i : Int) < (n2 : Int) := by omega
          have hz : i < ss.length := by rw [hn2.out]; exact hlt
          obtain ⟨s, ez⟩ : ∃ z, Hid (ss[i]? = some z) := ⟨_, Lib.hid (List.getElem?_eq_getElem hz)⟩
          obtain ⟨b, o, ea, hc⟩ := H2.out (fun e => by
            have := congrArg List.length e
            simp at this
            rw [this] at hz
            simp at hz)
          have h9 := hc i (.string s) (by rw [List.getElem?_map, ez.out]; rfl)
          have hcell : wr.cell? ⟨b, o + i, none⟩ = some (.string s) := (HB.out.cell (World.block_lt_of_cell? w _ h9)).trans h9
          have HC9 := Lib.hid h9
          obtain ⟨y, k, t1, t2⟩ := parse_same s (HS.out s (List.mem_of_getElem? ez.out))
          have t1 := t1 wr (HA.out.kept HB.out)
          subst ea
          clear hc H1 H2 HS ez hn1 hn2 hz h9
          go_wp2_with fail
          refine t1.mono ?_
          rintro e w1 ⟨rfl, b1⟩
          have B1 := Lib.hid (HB.out.trans (b1.mono HB.out.size))
          have hcell1 : w1.cell? ⟨b, o + i, none⟩ = some (.string s) := (B1.out.cell (World.block_lt_of_cell? w _ HC9.out)).trans HC9.out
          clear b1 hcell t1 HB
          go_wp2_with fail
          refine (t2 _).mono ?_
          rintro e w2 ⟨rfl, b2⟩
          have B2 := Lib.hid (B1.out.trans (b2.mono B1.out.size))
          clear b2 hcell1 t2 B1 HC9
          go_wp2_with fail
          exact ⟨⟨i + 1, rfl, hlt, B2⟩, by simp [intOf] <;> omega⟩
        · have hlt' : decide ((i : Int) < (n2 : Int)) = false := by simp; omega
          have hlt'' : (n2 : Int) ≤ (i : Int) := by omega
          go_wp2_with fail
          go_meet
          exact HB
    case rest =>
      have hFx := fixed_any wc (HA.out.kept hcut.out).tabs
      have HB2 := hcut
      clear hcut
      go_wp2_with fail
      refine hFx.mono ?_
      rintro e w5 ⟨rfl, b5⟩
      go_wp2_with fail
      go_ret
      exact ⟨rfl, HB2.out.trans (b5.mono HB2.out.size)⟩
end Go.Proofs.YtadlppllbebkdaaGreatDoor
