/- PostDoes returns true, whatever comes in, and leaves it as it was. -/
import Derived.Test.YtknklbojcnhjcaaPLBase
import Derived.Test.YtknklbojcnhjcaaPD6
namespace Go.Proofs.Ytknklbojcnhjcaa
open Go.ChangeShapes Go.WideShapes Go.ChangeAt Go.RowKit

set_option maxRecDepth 100000 in
theorem view_steps {H : Type} {enc : TypeId × Value → H} {W : World} {a : Option Addr} {len cap : Nat} {d : DataW H} {p : List MemPlace} (h : DataW.Trod enc Try.prog W 0 (fun _ => true) true 23 (.slice a len cap) d p) :
    ∃ l : List (Int × Int × Int × Int), l.length = len ∧ Rd W a (sC l) ∧ (∀ x ∈ l, Fit64 x.2.2.1) ∧ (len = 0 ∨ ∃ elems spare, d = .slice elems spare ∧ len ≤ elems.length + spare.length) :=
  view_flat (fun x : Int × Int × Int × Int => [Value.int .i64 x.1, .int .i64 x.2.1, .int .i64 x.2.2.1, .int .i64 x.2.2.2]) 4 (by decide) (fun _ => rfl) (fun x => Fit64 x.2.2.1) Try.underlying23 cellsS (fun fuel cs y hy => by
    obtain ⟨ys, m, _, _, hcl, hyl, hall⟩ := DataW.trod_struct Try.underlying43 hy
    rw [cellsS] at hcl
    have t0 := hall 0 _ rfl
    have t1 := hall 1 _ rfl
    have t2 := hall 2 _ rfl
    have t3 := hall 3 _ rfl
    match cs, hcl, ys, hyl with
    | [x0, x1, x2, x3], _, [z0, z1, z2, z3], _ =>
      obtain ⟨n0, e0, _, _⟩ := DataW.trod_int Try.underlying3 t0
      obtain ⟨n1, e1, _, _⟩ := DataW.trod_int Try.underlying3 t1
      obtain ⟨n2, e2, _, w2⟩ := DataW.trod_int Try.underlying3 t2
      obtain ⟨n3, e3, _, _⟩ := DataW.trod_int Try.underlying2 t3
      simp [cellsInt, cellsI64] at e0 e1 e2 e3
      subst e0 e1 e2 e3
      exact ⟨(n0, n1, n2, n3), rfl, bounds_i64 w2⟩) h

theorem postDoes_walk {room cursor : Int} {a a3 : Option Addr} {c c3 : Nat} {l : List TLn} {sc : List (Int × Int × Int × Int)} {w : World} (hA : ALs w a l) (hl : l.length ≤ 8000000000000) (hF : ∀ t ∈ l, ∀ x ∈ t.ws, Fit64 x.1) (hS : Rd w a3 (sC sc)) (hfz : ∀ x ∈ sc, Fit64 x.2.2.1) (hsl : sc.length ≤ 6000000000000) :
    Calls Try.prog 3 #[.int .i64 room, .slice a l.length c, .int .i64 cursor, .slice a3 sc.length c3] w fun e w' => e = .returned (.bool true) ∧ Below w.heap.size w w' := by
  by_cases hlg : longT l
  · exact pdoes_long hA hl hlg
  · exact pdoes_short hA hF hS hfz hsl hlg

set_option maxRecDepth 100000 in
theorem postDoes_lifted (os : Os) (started : os.Started) (H : Type) (enc : TypeId × Value → H) :
    ReturnsInHanded {} Try.checked os 3 .any (Rows.postDoesSpec.pre6 enc Try.prog Try.f3 Rows.postDoesRow.domain false) (Rows.postDoesSpec.post enc Try.prog Try.f3 false true false false) := by
  refine returnsInHanded_of_change_sized (C := Try.checked) ownK started (by kernel_rfl) Try.func3
    (ChangeSpec.witness6 (enc := enc) (C := Try.checked) false ⟨#[], #[.int .i64 0, .slice none 0 0, .int .i64 0, .slice none 0 0], []⟩ 8 (by kernel_rfl) (by kernel_rfl) (by kernel_rfl) (by kernel_rfl)) ?_
  intro W base args ds gs before hval0 hW hcnd hsz _
  have hval : ∀ (j : Nat) t v, Try.f3.params[j]? = some t → args[j]? = some v → Value.okWide Try.prog W .any base t v := hval0
  have hW' := hW
  obtain ⟨p, q, hA0, hV, rfl, hfz, hnd⟩ := hW
  have hA : DataW.TrodAll enc Try.prog W 0 (fun _ => true) true Try.f3.params.toList args.toList ds p := hA0
  rw [Try.params3] at hA hval
  obtain ⟨v0, vs0, d0, ds0, p0, q0, hargs, rfl, rfl, h0, r0⟩ := trodAll_cons hA
  obtain ⟨v1, vs1, d1, ds1, p1, q1, rfl, rfl, rfl, h1, r1⟩ := trodAll_cons r0
  obtain ⟨v2, vs2, d2, ds2, p2, q2, rfl, rfl, rfl, h2, r2⟩ := trodAll_cons r1
  obtain ⟨v3, vs3, d3, ds3, p3, q3, rfl, rfl, rfl, h3, r3⟩ := trodAll_cons r2
  obtain ⟨rfl, rfl, rfl⟩ := trodAll_nil r3
  obtain rfl : args = #[v0, v1, v2, v3] := by cases args; simp_all
  obtain ⟨rfl, rfl⟩ := trodVars_none hV
  obtain ⟨a0, rfl, rfl, rfl, w0⟩ := open_int Try.underlying3 (hval 0 3 v0 rfl rfl) h0
  obtain ⟨x1, n1, c1, rfl⟩ := okWide_slice Try.underlying22 (hval 1 22 v1 rfl rfl)
  obtain ⟨l1, rfl, hAL, hF, hd1⟩ := view_lanes h1
  obtain ⟨a2, rfl, rfl, rfl, w2⟩ := open_int Try.underlying3 (hval 2 3 v2 rfl rfl) h2
  obtain ⟨x4, n4, c4, rfl⟩ := okWide_slice Try.underlying23 (hval 3 23 v3 rfl rfl)
  obtain ⟨l4, rfl, hR, hFS, hd4⟩ := view_steps h3
  clear hA0 hval0
  have hlen : l1.length ≤ 8000000000000 := by
    rcases hd1 with h | ⟨elems, spare, rfl, h⟩
    · omega
    · have hz := sized_slice hsz (j := 1) (t := 22) (e := 29) (elems := elems) (spare := spare) (by rw [Try.params3]; rfl) rfl Try.underlying22
      have hz : (elems.length + spare.length) * Try.prog.bytesOf 29 ≤ reachBytes := hz
      rw [bytesA] at hz
      have := reachBytes_lt
      omega
  have hlen4 : l4.length ≤ 6000000000000 := by
    rcases hd4 with h | ⟨elems, spare, rfl, h⟩
    · omega
    · have hz := sized_slice hsz (j := 3) (t := 23) (e := 43) (elems := elems) (spare := spare) (by rw [Try.params3]; rfl) rfl Try.underlying23
      have hz : (elems.length + spare.length) * Try.prog.bytesOf 43 ≤ reachBytes := hz
      rw [bytesS] at hz
      have := reachBytes_lt
      omega
  simp only [List.append_nil] at hW'
  have hlt : ∀ x ∈ p1 ++ p3, x.block < W.heap.size := fun x hx => by simpa using hW'.lt x (by simpa using hx)
  refine (postDoes_walk hAL hlen hF hR hFS hlen4).mono fun e W' ⟨he, hg⟩ => ?_
  subst he
  refine ⟨_, rfl, _, _, _, [], [] ++ (p1 ++ ([] ++ (p3 ++ ([])))), [], hW', ?_, ?_, rfl, hg.frame _, fun h => by cases h⟩
  · exact trodAll_mk1 (shut_bool Try.underlying4 _)
  · exact (trodAll_cons_mk (shut_int Try.underlying3 w0) (trodAll_cons_mk (Below.trod laidOut (by kernel_rfl) (of_decide_eq_true (by kernel_rfl)) h1 hg (fun x hx => hlt x (by simp [hx]))) (trodAll_cons_mk (shut_int Try.underlying3 w2) (trodAll_cons_mk (Below.trod laidOut (by kernel_rfl) (of_decide_eq_true (by kernel_rfl)) h3 hg (fun x hx => hlt x (by simp [hx]))) trodAll_mk0))))

theorem postDoes_holds : Rows.PostDoesSaid :=
  OpenClaim.holds_of_wide 3 Try.f3 rfl rfl rfl rfl rfl rfl rfl ⟨rfl, rfl, rfl, rfl, rfl⟩ rfl rfl rfl rfl rfl (by kernel_rfl) Try.func3 (by kernel_rfl)
    (of_decide_eq_true (by kernel_rfl)) (by unfold Func.isWrapper; first | (rw [if_pos (by decide +kernel)]; kernel_rfl) | (rw [if_neg (by decide +kernel)]; exact ⟨rfl, rfl⟩))
    (fun os started H enc _ => postDoes_lifted os started H enc)
#print axioms postDoes_holds
end Go.Proofs.Ytknklbojcnhjcaa
