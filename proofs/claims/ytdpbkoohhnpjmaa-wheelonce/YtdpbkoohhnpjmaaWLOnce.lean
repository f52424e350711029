/- WheelOnce returns true, whatever comes in, and leaves it as it was. -/
import Derived.Test.YtdpbkoohhnpjmaaWLBase
import Derived.Test.YtdpbkoohhnpjmaaWO3
namespace Go.Proofs.Ytdpbkoohhnpjmaa
open Go.ChangeShapes Go.WideShapes Go.ChangeAt Go.RowKit

theorem wheelOnce_walk {a0 a1 a2 : Option Addr} {c0 c1 c2 : Nat} {l : List (Int × Int)} {gone nows : List Int} {w : World} (hR0 : Rd w a0 (wC l)) (hR1 : Rd w a1 (iC gone)) (hR2 : Rd w a2 (iC nows)) (h1 : gone.length ≤ 100000000000000) (h2 : nows.length ≤ 100000000000000) (hf0 : ∀ x ∈ l, Fit2 x) (hf1 : ∀ x ∈ gone, Fit64 x) :
    Calls Try.prog 5 #[.slice a0 l.length c0, .slice a1 gone.length c1, .slice a2 nows.length c2] w fun e w' => e = .returned (.bool true) ∧ Below w.heap.size w w' := by
  by_cases h0 : l.length ≤ 1048576
  · exact once_short hR0 hR1 hR2 h0 h1 h2 hf0 hf1
  · exact once_long (by omega)

set_option maxRecDepth 100000 in
theorem wheelOnce_lifted (os : Os) (started : os.Started) (H : Type) (enc : TypeId × Value → H) :
    ReturnsInHanded {} Try.checked os 5 .any (Rows.wheelOnceSpec.pre6 enc Try.prog Try.f5 Rows.wheelOnceRow.domain false) (Rows.wheelOnceSpec.post enc Try.prog Try.f5 false true false false) := by
  refine returnsInHanded_of_change_sized (C := Try.checked) ownK started (by kernel_rfl) Try.func5
    (ChangeSpec.witness6 (enc := enc) (C := Try.checked) false ⟨#[], #[.slice none 0 0, .slice none 0 0, .slice none 0 0], []⟩ 8 (by kernel_rfl) (by kernel_rfl) (by kernel_rfl) (by kernel_rfl)) ?_
  intro W base args ds gs before hval0 hW hcnd hsz _
  have hval : ∀ (j : Nat) t v, Try.f5.params[j]? = some t → args[j]? = some v → Value.okWide Try.prog W .any base t v := hval0
  have hW' := hW
  obtain ⟨p, q, hA0, hV, rfl, hfz, hnd⟩ := hW
  have hA : DataW.TrodAll enc Try.prog W 0 (fun _ => true) true Try.f5.params.toList args.toList ds p := hA0
  rw [Try.params5] at hA hval
  obtain ⟨v0, vs0, d0, ds0, p0, q0, hargs, rfl, rfl, h0, r0⟩ := trodAll_cons hA
  obtain ⟨v1, vs1, d1, ds1, p1, q1, rfl, rfl, rfl, h1, r1⟩ := trodAll_cons r0
  obtain ⟨v2, vs2, d2, ds2, p2, q2, rfl, rfl, rfl, h2, r2⟩ := trodAll_cons r1
  obtain ⟨rfl, rfl, rfl⟩ := trodAll_nil r2
  obtain rfl : args = #[v0, v1, v2] := by cases args; simp_all
  obtain ⟨rfl, rfl⟩ := trodVars_none hV
  obtain ⟨x0, n0, c0, rfl⟩ := okWide_slice Try.underlying40 (hval 0 40 v0 rfl rfl)
  obtain ⟨x1, n1, c1, rfl⟩ := okWide_slice Try.underlying35 (hval 1 35 v1 rfl rfl)
  obtain ⟨x2, n2, c2, rfl⟩ := okWide_slice Try.underlying41 (hval 2 41 v2 rfl rfl)
  obtain ⟨l0, rfl, hR0, hF0⟩ := view_sets h0
  obtain ⟨l1, rfl, hR1, hF1, hd1⟩ := view_nums Try.underlying35 Try.underlying3 cellsInt h1
  obtain ⟨l2, rfl, hR2, hF2, hd2⟩ := view_nums Try.underlying41 Try.underlying2 cellsI64 h2
  clear hA0 hval0
  have hlen1 : l1.length ≤ 100000000000000 := by
    rcases hd1 with h | ⟨elems, spare, rfl, h⟩
    · omega
    · have hz := sized_slice hsz (j := 1) (t := 35) (e := 3) (elems := elems) (spare := spare) (by rw [Try.params5]; rfl) rfl Try.underlying35
      have hz : (elems.length + spare.length) * Try.prog.bytesOf 3 ≤ reachBytes := hz
      rw [bytesInt] at hz
      have := reachBytes_lt
      omega
  have hlen2 : l2.length ≤ 100000000000000 := by
    rcases hd2 with h | ⟨elems, spare, rfl, h⟩
    · omega
    · have hz := sized_slice hsz (j := 2) (t := 41) (e := 2) (elems := elems) (spare := spare) (by rw [Try.params5]; rfl) rfl Try.underlying41
      have hz : (elems.length + spare.length) * Try.prog.bytesOf 2 ≤ reachBytes := hz
      rw [bytesI64] at hz
      have := reachBytes_lt
      omega
  simp only [List.append_nil] at hW'
  have hlt : ∀ x ∈ p0 ++ (p1 ++ p2), x.block < W.heap.size := fun x hx => by simpa using hW'.lt x (by simpa using hx)
  refine (wheelOnce_walk hR0 hR1 hR2 hlen1 hlen2 hF0 hF1).mono fun e W' ⟨he, hg⟩ => ?_
  subst he
  refine ⟨_, rfl, _, _, _, [], p0 ++ (p1 ++ (p2 ++ ([]))), [], hW', ?_, ?_, rfl, hg.frame _, fun h => by cases h⟩
  · exact trodAll_mk1 (shut_bool Try.underlying4 _)
  · exact (trodAll_cons_mk (Below.trod laidOut (by kernel_rfl) (of_decide_eq_true (by kernel_rfl)) h0 hg (fun x hx => hlt x (by simp [hx]))) (trodAll_cons_mk (Below.trod laidOut (by kernel_rfl) (of_decide_eq_true (by kernel_rfl)) h1 hg (fun x hx => hlt x (by simp [hx]))) (trodAll_cons_mk (Below.trod laidOut (by kernel_rfl) (of_decide_eq_true (by kernel_rfl)) h2 hg (fun x hx => hlt x (by simp [hx]))) trodAll_mk0)))

theorem wheelOnce_holds : Rows.WheelOnceSaid :=
  OpenClaim.holds_of_wide 5 Try.f5 rfl rfl rfl rfl rfl rfl rfl ⟨rfl, rfl, rfl, rfl, rfl⟩ rfl rfl rfl rfl rfl (by kernel_rfl) Try.func5 (by kernel_rfl)
    (of_decide_eq_true (by kernel_rfl)) (by unfold Func.isWrapper; first | (rw [if_pos (by decide +kernel)]; kernel_rfl) | (rw [if_neg (by decide +kernel)]; exact ⟨rfl, rfl⟩))
    (fun os started H enc _ => wheelOnce_lifted os started H enc)
#print axioms wheelOnce_holds
end Go.Proofs.Ytdpbkoohhnpjmaa
