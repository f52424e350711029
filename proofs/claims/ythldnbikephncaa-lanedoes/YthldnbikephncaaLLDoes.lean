/- LaneDoes returns true, whatever comes in, and leaves it as it was. -/
import Derived.Test.YthldnbikephncaaLLBase
import Derived.Test.YthldnbikephncaaLS6
namespace Go.Proofs.Ythldnbikephncaa
open Go.ChangeShapes Go.WideShapes Go.ChangeAt Go.RowKit

theorem cellsW : Try.prog.cellsOf 50 = 2 := by kernel_rfl
theorem cellsS : Try.prog.cellsOf 41 = 3 := by kernel_rfl
theorem cellsA : Try.prog.cellsOf 25 = 4 := by kernel_rfl
theorem cellsLI : Try.prog.cellsOf 22 = 1 := by kernel_rfl
theorem cellsLW : Try.prog.cellsOf 23 = 1 := by kernel_rfl
theorem bytesS : Try.prog.bytesOf 41 = 24 := by kernel_rfl

theorem view_ints {H : Type} {enc : TypeId × Value → H} {W : World} {a : Option Addr} {len cap : Nat} {d : DataW H} {p : List MemPlace} (h : DataW.Trod enc Try.prog W 0 (fun _ => true) true 22 (.slice a len cap) d p) :
    ∃ l : List Int, l.length = len ∧ Rd W a (iC l) := by
  obtain ⟨l, h1, h2, _, _⟩ := view_flat (fun x => [Value.int .i64 x]) 1 (by decide) (fun _ => rfl) (fun _ => True) Try.underlying22 cellsI64 (fun fuel cs y hy => by
    obtain ⟨b, e, _⟩ := DataW.trod_int Try.underlying2 hy
    exact ⟨b, e, trivial⟩) h
  rw [iC_flat] at h2
  exact ⟨l, h1, h2⟩
theorem view_waiters {H : Type} {enc : TypeId × Value → H} {W : World} {a : Option Addr} {len cap : Nat} {d : DataW H} {p : List MemPlace} (h : DataW.Trod enc Try.prog W 0 (fun _ => true) true 23 (.slice a len cap) d p) :
    ∃ l : List (Int × Int), l.length = len ∧ Rd W a (wC l) ∧ ∀ x ∈ l, Fit64 x.1 := by
  obtain ⟨l, h1, h2, h3, _⟩ := view_flat wP 2 (by decide) (fun _ => rfl) (fun x => Fit64 x.1) Try.underlying23 cellsW (fun fuel cs y hy => by
    obtain ⟨ys, m, _, _, hcl, hyl, hall⟩ := DataW.trod_struct Try.underlying50 hy
    rw [cellsW] at hcl
    have t0 := hall 0 _ rfl
    have t1 := hall 1 _ rfl
    match cs, hcl, ys, hyl with
    | [x0, x1], _, [z0, z1], _ =>
      obtain ⟨n0, e0, _, w0⟩ := DataW.trod_int Try.underlying3 t0
      obtain ⟨n1, e1, _, _⟩ := DataW.trod_int Try.underlying2 t1
      simp [cellsInt, cellsI64] at e0 e1
      subst e0 e1
      exact ⟨(n0, n1), rfl, bounds_i64 w0⟩) h
  exact ⟨l, h1, h2, h3⟩
theorem view_steps {H : Type} {enc : TypeId × Value → H} {W : World} {a : Option Addr} {len cap : Nat} {d : DataW H} {p : List MemPlace} (h : DataW.Trod enc Try.prog W 0 (fun _ => true) true 26 (.slice a len cap) d p) :
    ∃ l : List (Int × Int × Int), l.length = len ∧ Rd W a (sC l) ∧ (∀ x ∈ l, Fit64 x.2.1) ∧ (len = 0 ∨ ∃ elems spare, d = .slice elems spare ∧ len ≤ elems.length + spare.length) :=
  view_flat (fun x : Int × Int × Int => [Value.int .i64 x.1, .int .i64 x.2.1, .int .i64 x.2.2]) 3 (by decide) (fun _ => rfl) (fun x => Fit64 x.2.1) Try.underlying26 cellsS (fun fuel cs y hy => by
    obtain ⟨ys, m, _, _, hcl, hyl, hall⟩ := DataW.trod_struct Try.underlying41 hy
    rw [cellsS] at hcl
    have t0 := hall 0 _ rfl
    have t1 := hall 1 _ rfl
    have t2 := hall 2 _ rfl
    match cs, hcl, ys, hyl with
    | [x0, x1, x2], _, [z0, z1, z2], _ =>
      obtain ⟨n0, e0, _, _⟩ := DataW.trod_int Try.underlying3 t0
      obtain ⟨n1, e1, _, w1⟩ := DataW.trod_int Try.underlying3 t1
      obtain ⟨n2, e2, _, _⟩ := DataW.trod_int Try.underlying2 t2
      simp [cellsInt, cellsI64] at e0 e1 e2
      subst e0 e1 e2
      exact ⟨(n0, n1, n2), rfl, bounds_i64 w1⟩) h

theorem view_lane {H : Type} {enc : TypeId × Value → H} {W : World} {base : Nat} {v : Value} {d : DataW H} {p : List MemPlace} (hv : Value.okWide Try.prog W .any base 25 v)
    (h : DataW.Trod enc Try.prog W 0 (fun _ => true) true 25 v d p) : ∃ (a1 a2 : Option Addr) (c1 c2 : Nat) (vs : List Int) (ws : List (Int × Int)) (tk dr : Int),
      v = .agg #[.slice a1 vs.length c1, .slice a2 ws.length c2, .int .i64 tk, .int .i64 dr] ∧ AL W vs ws a1 a2 ∧ ∀ x ∈ ws, Fit64 x.1 := by
  obtain ⟨⟨L⟩, rfl, hs⟩ := okWide_struct Try.underlying25 hv
  obtain ⟨fuel, hf⟩ := h
  have hf : DataW.trod enc Try.prog W 0 (fun _ => true) true fuel 25 L = some (d, p) := hf
  obtain ⟨ys, m, _, _, hcl, hyl, hall⟩ := DataW.trod_struct Try.underlying25 hf
  rw [cellsA] at hcl
  have t0 := hall 0 _ rfl
  have t1 := hall 1 _ rfl
  have t2 := hall 2 _ rfl
  have t3 := hall 3 _ rfl
  match L, hcl, ys, hyl with
  | [c0, c1, c2, c3], _, [z0, z1, z2, z3], _ =>
    obtain ⟨n2, e2, _, w2⟩ := DataW.trod_int Try.underlying3 t2
    obtain ⟨n3, e3, _, w3⟩ := DataW.trod_int Try.underlying3 t3
    simp [cellsInt] at e2 e3
    subst e2 e3
    have t0' : DataW.trod enc Try.prog W 0 (fun _ => true) true m 22 [c0] = some z0 := by
      have := t0
      simpa [cellsLI] using this
    have t1' : DataW.trod enc Try.prog W 0 (fun _ => true) true m 23 [c1] = some z1 := by
      have := t1
      simpa [cellsLI, cellsLW] using this
    obtain ⟨a, len, cap, rfl⟩ : ∃ a len cap, c0 = .slice a len cap := by
      rcases DataW.trod_slice Try.underlying22 t0' with ⟨hcs, _⟩ | ⟨a', len', cap', _, _, _, _, hcs, _⟩
      · exact ⟨none, 0, 0, by simpa using hcs⟩
      · exact ⟨some a', len', cap', by simpa using hcs⟩
    obtain ⟨a2, len2, cap2, rfl⟩ : ∃ a len cap, c1 = .slice a len cap := by
      rcases DataW.trod_slice Try.underlying23 t1' with ⟨hcs, _⟩ | ⟨a', len', cap', _, _, _, _, hcs, _⟩
      · exact ⟨none, 0, 0, by simpa using hcs⟩
      · exact ⟨some a', len', cap', by simpa using hcs⟩
    obtain ⟨vs, rfl, hR1⟩ := view_ints (a := a) (len := len) (cap := cap) (d := z0.1) (p := z0.2) ⟨m, t0'⟩
    obtain ⟨ws, rfl, hR2, hF⟩ := view_waiters (a := a2) (len := len2) (cap := cap2) (d := z1.1) (p := z1.2) ⟨m, t1'⟩
    exact ⟨a, a2, cap, cap2, vs, ws, n2, n3, rfl, ⟨hR1, hR2⟩, hF⟩

theorem laneDoes_walk {room : Int} {vs : List Int} {ws : List (Int × Int)} {tk dr : Int} {a1 a2 : Option Addr} {c1 c2 : Nat} {a3 : Option Addr} {c3 : Nat} {l : List (Int × Int × Int)} {w : World} (hA : AL w vs ws a1 a2) (hf : ∀ x ∈ ws, Fit64 x.1)
    (hS : Rd w a3 (sC l)) (hfz : ∀ x ∈ l, Fit64 x.2.1) (hl : l.length ≤ 6000000000000) :
    Calls Try.prog 3 #[.int .i64 room, .agg #[.slice a1 vs.length c1, .slice a2 ws.length c2, .int .i64 tk, .int .i64 dr], .slice a3 l.length c3] w fun e w' => e = .returned (.bool true) ∧ Below w.heap.size w w' := by
  by_cases hlg : 1048576 < vs.length ∨ 4096 < ws.length
  · exact does_long hlg
  · by_cases hr : 1 ≤ room ∧ room ≤ 64
    · by_cases hm : MayL room vs ws tk dr
      · have e : room = ((room.toNat : Nat) : Int) := by omega
        rw [e] at hm ⊢
        exact does_yes hA (by omega) (by omega) hf (by omega) (by omega) hm hS hfz hl
      · refine does_no hA (by omega) (by omega) 4 (by decide) (fun W b1 b2 f1 f2 h => lay_form h hr.1 hr.2 (by omega) hf hm) (fun W h => rlay_form h hr.1 hr.2 (by omega) hm) (.inr fun W => ⟨hr, ?_⟩)
        have e : room = ((room.toNat : Nat) : Int) := by omega
        rw [e]
        exact (new_ok (w := W) (by omega) (by omega)).mono fun e w' ⟨b, F, h1, _, _, h4⟩ => ⟨b, h1, h4⟩
    · exact does_no hA (by omega) (by omega) 1 (by decide) (fun W b1 b2 f1 f2 h => lay_arg (by omega) _ _ _ _ rfl) (fun W h => rlay_arg (by omega) _ _ _ _) (.inl fun W => ⟨hr, new_no (by omega)⟩)

set_option maxRecDepth 100000 in
theorem laneDoes_lifted (os : Os) (started : os.Started) (H : Type) (enc : TypeId × Value → H) :
    ReturnsInHanded {} Try.checked os 3 .any (Rows.laneDoesSpec.pre6 enc Try.prog Try.f3 Rows.laneDoesRow.domain false) (Rows.laneDoesSpec.post enc Try.prog Try.f3 false true false false) := by
  refine returnsInHanded_of_change_sized (C := Try.checked) ownK started (by kernel_rfl) Try.func3
    (ChangeSpec.witness6 (enc := enc) (C := Try.checked) false ⟨#[], #[.int .i64 0, .agg #[.slice none 0 0, .slice none 0 0, .int .i64 0, .int .i64 0], .slice none 0 0], []⟩ 8 (by kernel_rfl) (by kernel_rfl) (by kernel_rfl) (by kernel_rfl)) ?_
  intro W base args ds gs before hval0 hW hcnd hsz _
  have hval : ∀ (j : Nat) t v, Try.f3.params[j]? = some t → args[j]? = some v → Value.okWide Try.prog W .any base t v := hval0
  have hW' := hW
  obtain ⟨p, q, hA0, hV, rfl, hfz, hnd⟩ := hW
  have hA : DataW.TrodAll enc Try.prog W 0 (fun _ => true) true Try.f3.params.toList args.toList ds p := hA0
  rw [Try.params3] at hA hval
  obtain ⟨v0, vs0, d0, ds0, p0, q0, hargs, rfl, rfl, h0, r0⟩ := trodAll_cons hA
  obtain ⟨v1, vs1, d1, ds1, p1, q1, rfl, rfl, rfl, h1, r1⟩ := trodAll_cons r0
  obtain ⟨v2, vs2, d2, ds2, p2, q2, rfl, rfl, rfl, h2, r2⟩ := trodAll_cons r1
  obtain ⟨rfl, rfl, rfl⟩ := trodAll_nil r2
  obtain rfl : args = #[v0, v1, v2] := by cases args; simp_all
  obtain ⟨rfl, rfl⟩ := trodVars_none hV
  obtain ⟨a0, rfl, rfl, rfl, w0⟩ := open_int Try.underlying3 (hval 0 3 v0 rfl rfl) h0
  obtain ⟨x1, x2, c1, c2, vs, ws, tk, dr, rfl, hAL, hF⟩ := view_lane (hval 1 25 v1 rfl rfl) h1
  obtain ⟨a2, n2, c2', rfl⟩ := okWide_slice Try.underlying26 (hval 2 26 v2 rfl rfl)
  obtain ⟨l2, rfl, hS, hFS, hd2⟩ := view_steps h2
  clear hA0 hval0
  have hlen : l2.length ≤ 6000000000000 := by
    rcases hd2 with h | ⟨elems, spare, rfl, h⟩
    · omega
    · have hz := sized_slice hsz (j := 2) (t := 26) (e := 41) (elems := elems) (spare := spare) (by rw [Try.params3]; rfl) rfl Try.underlying26
      have hz : (elems.length + spare.length) * Try.prog.bytesOf 41 ≤ reachBytes := hz
      rw [bytesS] at hz
      have := reachBytes_lt
      omega
  simp only [List.append_nil] at hW'
  have hlt : ∀ x ∈ p1 ++ p2, x.block < W.heap.size := fun x hx => by simpa using hW'.lt x (by simpa using hx)
  refine (laneDoes_walk hAL hF hS hFS hlen).mono fun e W' ⟨he, hg⟩ => ?_
  subst he
  refine ⟨_, rfl, _, _, _, [], [] ++ (p1 ++ (p2 ++ ([]))), [], hW', ?_, ?_, rfl, hg.frame _, fun h => by cases h⟩
  · exact trodAll_mk1 (shut_bool Try.underlying4 _)
  · exact (trodAll_cons_mk (shut_int Try.underlying3 w0) (trodAll_cons_mk (Below.trod laidOut (by kernel_rfl) (of_decide_eq_true (by kernel_rfl)) h1 hg (fun x hx => hlt x (by simp [hx]))) (trodAll_cons_mk (Below.trod laidOut (by kernel_rfl) (of_decide_eq_true (by kernel_rfl)) h2 hg (fun x hx => hlt x (by simp [hx]))) trodAll_mk0)))

theorem laneDoes_holds : Rows.LaneDoesSaid :=
  OpenClaim.holds_of_wide 3 Try.f3 rfl rfl rfl rfl rfl rfl rfl ⟨rfl, rfl, rfl, rfl, rfl⟩ rfl rfl rfl rfl rfl (by kernel_rfl) Try.func3 (by kernel_rfl)
    (of_decide_eq_true (by kernel_rfl)) (by unfold Func.isWrapper; first | (rw [if_pos (by decide +kernel)]; kernel_rfl) | (rw [if_neg (by decide +kernel)]; exact ⟨rfl, rfl⟩))
    (fun os started H enc _ => laneDoes_lifted os started H enc)
#print axioms laneDoes_holds
end Go.Proofs.Ythldnbikephncaa
