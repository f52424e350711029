/- PostFair returns true, whatever comes in, and leaves it as it was. -/
import Derived.Test.YtknklbojcnhjcaaPLBase
import Derived.Test.YtknklbojcnhjcaaPF4
namespace Go.Proofs.Ytknklbojcnhjcaa
open Go.ChangeShapes Go.WideShapes Go.ChangeAt Go.RowKit

theorem postFair_walk {room cursor which : Int} {a am : Option Addr} {c cm : Nat} {l : List TLn} {more : List Int} {w : World} (hA : ALs w a l) (hl : l.length ≤ 8000000000000) (hR : Rd w am (iC more)) (hml : more.length ≤ 100000000000000) :
    Calls Try.prog 4 #[.int .i64 room, .slice a l.length c, .int .i64 cursor, .int .i64 which, .slice am more.length cm] w fun e w' => e = .returned (.bool true) ∧ Below w.heap.size w w' := by
  by_cases hlg : longT l
  · exact fair_long hA hl hlg
  · exact fair_short hA hR hml hlg

set_option maxRecDepth 100000 in
theorem postFair_lifted (os : Os) (started : os.Started) (H : Type) (enc : TypeId × Value → H) :
    ReturnsInHanded {} Try.checked os 4 .any (Rows.postFairSpec.pre6 enc Try.prog Try.f4 Rows.postFairRow.domain false) (Rows.postFairSpec.post enc Try.prog Try.f4 false true false false) := by
  refine returnsInHanded_of_change_sized (C := Try.checked) ownK started (by kernel_rfl) Try.func4
    (ChangeSpec.witness6 (enc := enc) (C := Try.checked) false ⟨#[], #[.int .i64 0, .slice none 0 0, .int .i64 0, .int .i64 0, .slice none 0 0], []⟩ 8 (by kernel_rfl) (by kernel_rfl) (by kernel_rfl) (by kernel_rfl)) ?_
  intro W base args ds gs before hval0 hW hcnd hsz _
  have hval : ∀ (j : Nat) t v, Try.f4.params[j]? = some t → args[j]? = some v → Value.okWide Try.prog W .any base t v := hval0
  have hW' := hW
  obtain ⟨p, q, hA0, hV, rfl, hfz, hnd⟩ := hW
  have hA : DataW.TrodAll enc Try.prog W 0 (fun _ => true) true Try.f4.params.toList args.toList ds p := hA0
  rw [Try.params4] at hA hval
  obtain ⟨v0, vs0, d0, ds0, p0, q0, hargs, rfl, rfl, h0, r0⟩ := trodAll_cons hA
  obtain ⟨v1, vs1, d1, ds1, p1, q1, rfl, rfl, rfl, h1, r1⟩ := trodAll_cons r0
  obtain ⟨v2, vs2, d2, ds2, p2, q2, rfl, rfl, rfl, h2, r2⟩ := trodAll_cons r1
  obtain ⟨v3, vs3, d3, ds3, p3, q3, rfl, rfl, rfl, h3, r3⟩ := trodAll_cons r2
  obtain ⟨v4, vs4, d4, ds4, p4, q4, rfl, rfl, rfl, h4, r4⟩ := trodAll_cons r3
  obtain ⟨rfl, rfl, rfl⟩ := trodAll_nil r4
  obtain rfl : args = #[v0, v1, v2, v3, v4] := by cases args; simp_all
  obtain ⟨rfl, rfl⟩ := trodVars_none hV
  obtain ⟨a0, rfl, rfl, rfl, w0⟩ := open_int Try.underlying3 (hval 0 3 v0 rfl rfl) h0
  obtain ⟨x1, n1, c1, rfl⟩ := okWide_slice Try.underlying22 (hval 1 22 v1 rfl rfl)
  obtain ⟨l1, rfl, hAL, hF, hd1⟩ := view_lanes h1
  obtain ⟨a2, rfl, rfl, rfl, w2⟩ := open_int Try.underlying3 (hval 2 3 v2 rfl rfl) h2
  obtain ⟨a3, rfl, rfl, rfl, w3⟩ := open_int Try.underlying3 (hval 3 3 v3 rfl rfl) h3
  obtain ⟨x4, n4, c4, rfl⟩ := okWide_slice Try.underlying49 (hval 4 49 v4 rfl rfl)
  obtain ⟨l4, rfl, hR, hd4⟩ := view_nums h4
  clear hA0 hval0
  have hlen : l1.length ≤ 8000000000000 := by
    rcases hd1 with h | ⟨elems, spare, rfl, h⟩
    · omega
    · have hz := sized_slice hsz (j := 1) (t := 22) (e := 29) (elems := elems) (spare := spare) (by rw [Try.params4]; rfl) rfl Try.underlying22
      have hz : (elems.length + spare.length) * Try.prog.bytesOf 29 ≤ reachBytes := hz
      rw [bytesA] at hz
      have := reachBytes_lt
      omega
  have hlen4 : l4.length ≤ 100000000000000 := by
    rcases hd4 with h | ⟨elems, spare, rfl, h⟩
    · omega
    · have hz := sized_slice hsz (j := 4) (t := 49) (e := 3) (elems := elems) (spare := spare) (by rw [Try.params4]; rfl) rfl Try.underlying49
      have hz : (elems.length + spare.length) * Try.prog.bytesOf 3 ≤ reachBytes := hz
      rw [bytesI] at hz
      have := reachBytes_lt
      omega
  simp only [List.append_nil] at hW'
  have hlt : ∀ x ∈ p1 ++ p4, x.block < W.heap.size := fun x hx => by simpa using hW'.lt x (by simpa using hx)
  refine (postFair_walk hAL hlen hR hlen4).mono fun e W' ⟨he, hg⟩ => ?_
  subst he
  refine ⟨_, rfl, _, _, _, [], [] ++ (p1 ++ ([] ++ ([] ++ (p4 ++ ([]))))), [], hW', ?_, ?_, rfl, hg.frame _, fun h => by cases h⟩
  · exact trodAll_mk1 (shut_bool Try.underlying4 _)
  · exact (trodAll_cons_mk (shut_int Try.underlying3 w0) (trodAll_cons_mk (Below.trod laidOut (by kernel_rfl) (of_decide_eq_true (by kernel_rfl)) h1 hg (fun x hx => hlt x (by simp [hx]))) (trodAll_cons_mk (shut_int Try.underlying3 w2) (trodAll_cons_mk (shut_int Try.underlying3 w3) (trodAll_cons_mk (Below.trod laidOut (by kernel_rfl) (of_decide_eq_true (by kernel_rfl)) h4 hg (fun x hx => hlt x (by simp [hx]))) trodAll_mk0)))))

theorem postFair_holds : Rows.PostFairSaid :=
  OpenClaim.holds_of_wide 4 Try.f4 rfl rfl rfl rfl rfl rfl rfl ⟨rfl, rfl, rfl, rfl, rfl⟩ rfl rfl rfl rfl rfl (by kernel_rfl) Try.func4 (by kernel_rfl)
    (of_decide_eq_true (by kernel_rfl)) (by unfold Func.isWrapper; first | (rw [if_pos (by decide +kernel)]; kernel_rfl) | (rw [if_neg (by decide +kernel)]; exact ⟨rfl, rfl⟩))
    (fun os started H enc _ => postFair_lifted os started H enc)
#print axioms postFair_holds
end Go.Proofs.Ytknklbojcnhjcaa
