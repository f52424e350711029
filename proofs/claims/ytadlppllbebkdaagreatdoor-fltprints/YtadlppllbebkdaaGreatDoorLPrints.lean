/- FltPrints returns true, for any list of numbers and any list of texts: flt.Print tells of any bits the document's text, flt.Parse of any text the document's bits or its error; the tables and variables of the library that its road names are tied to the program's text, the great tables pinned by the form. -/
import Derived.Test.YtadlppllbebkdaaGreatDoorTie
import Derived.Test.YtadlppllbebkdaaGreatDoorCards
import Derived.Test.YtadlppllbebkdaaGreatDoorZLa
import Derived.Lay
import Derived.Test.YtadlppllbebkdaaGreatDoorZEh
import Derived.Test.YtadlppllbebkdaaGreatDoorZPh
import Derived.ProofKit
import Derived.LaidMore
import Derived.OpenShut
import Derived.SizedLaws
import Derived.SliceStrings
import Derived.Stop.Joined
import Derived.SevenTiedAt
namespace Go.Proofs.YtadlppllbebkdaaGreatDoor
open Go.ChangeShapes Go.WideShapes Go.ChangeAt Go.RowKit
open Go.ChangeMaps (open_string shut_string)

/-- The variables lie where the program began. -/
theorem blk_here {w : World} (h : w.ShapedOpen Tryz.prog) : Blk w := by
  have key : ∀ g : Nat, g < Tryz.prog.globals.size → (((begin Tryz.prog (fun _ _ => 0) default).world.heap[g]?).bind Obj.row?).isSome = true → ∃ (c : Array Value) (t : TypeId), w.heap[g]? = some (.cells c t (0, 0)) := by
    intro g hg hs
    obtain ⟨⟨zero, t⟩, hz⟩ := Option.isSome_iff_exists.1 hs
    obtain ⟨cs, hcs, _⟩ := h.1 g zero t hg hz
    exact ⟨cs, t, hcs⟩
  have hgs : Tryz.prog.globals.size = 15 := by kernel_rfl
  obtain ⟨ca, ta, ha⟩ := key 9 (by rw [hgs]; decide) (by kernel_rfl)
  obtain ⟨cb, tb, hb⟩ := key 8 (by rw [hgs]; decide) (by kernel_rfl)
  exact ⟨ca, cb, ta, tb, ha, hb⟩

theorem laidOutT : laidOutB Tryz.prog = true := by kernel_rfl

/-- Cells that lie in a row. -/
theorem ls_of {W : World} {a : Addr} {vs : List Value} (h : ∀ i u, vs[i]? = some u → W.cell? (a.add i) = some u) : Ls W (some a) vs := fun hne => by
  obtain ⟨u0, h0⟩ : ∃ u, vs[0]? = some u := by
    cases vs with
    | nil => exact absurd rfl hne
    | cons x r => exact ⟨x, rfl⟩
  obtain ⟨R, o, rfl⟩ := one_spot (h 0 u0 h0)
  refine ⟨R, o, rfl, fun i u hu => ?_⟩
  have := h i u hu
  rw [Addr.add_lit] at this
  exact this

theorem view_i64 {H : Type} {enc : TypeId × Value → H} {W : World} {a : Option Addr} {len cap : Nat} {d : DataW H} {p : List MemPlace} (h : DataW.Trod enc Tryz.prog W 0 (fun _ => true) true 27 (.slice a len cap) d p) :
    ∃ z : List Int, z.length = len ∧ len ≤ cap ∧ cap ≤ 9223372036854775807 ∧ Ls W a (z.map (Value.int .i64)) := by
  obtain ⟨fuel, hf⟩ := h
  rcases open_ints Tryz.underlying27 Tryz.underlying2 (by kernel_rfl) hf with ⟨hcs, hx⟩ | ⟨a', len', cap', zs, hcs, _, hl, hm, hz, hx, hcell, hwz⟩
  · simp [Value.cells] at hcs
    obtain ⟨rfl, rfl, rfl⟩ := hcs
    exact ⟨[], rfl, Nat.le_refl _, by omega, fun h => absurd rfl h⟩
  · simp [Value.cells] at hcs
    obtain ⟨rfl, rfl, rfl⟩ := hcs
    simp only [if_true] at hz
    refine ⟨zs.take len, by simp; omega, hl, by unfold maxLen at hm; omega, ls_of fun i u hu => ?_⟩
    rw [List.getElem?_map, List.getElem?_take] at hu
    split at hu
    · rename_i hi
      have hi' : i < zs.length := by omega
      rw [List.getElem?_eq_getElem hi'] at hu
      have hc := hcell i hi'
      rw [hc, ← hu]
      simp [List.getD_eq_getElem?_getD, List.getElem?_eq_getElem hi']
    · simp at hu

theorem weights_all {H : Type} {P : Program} {e : TypeId} : ∀ {l : List (DataW H)} {d : DataW H} {n : Nat}, d ∈ l → n ∈ d.weights P e → n ∈ DataW.weightsAll P e l
  | [], _, _, h, _ => by simp at h
  | x :: l, d, n, h, hn => by
    simp only [DataW.weightsAll, List.mem_append]
    rcases List.mem_cons.1 h with rfl | h
    · exact .inl hn
    · exact .inr (weights_all h hn)

theorem view_strs {H : Type} {enc : TypeId × Value → H} {W : World} {a : Option Addr} {len cap : Nat} {d : DataW H} {p : List MemPlace} (h : DataW.Trod enc Tryz.prog W 0 (fun _ => true) true 28 (.slice a len cap) d p) (hw : ∀ n, n ∈ d.weights Tryz.prog 28 → n ≤ reachBytes) :
    ∃ z : List ByteArray, z.length = len ∧ len ≤ cap ∧ cap ≤ 9223372036854775807 ∧ Ls W a (z.map Value.string) ∧ ∀ s, s ∈ z → s.size ≤ 140737488355328 := by
  obtain ⟨fuel, hf⟩ := h
  rcases open_strings Tryz.underlying28 Tryz.underlying9 (by kernel_rfl) hf with ⟨hcs, hx⟩ | ⟨a', len', cap', ss, hcs, _, hl, hm, hz, hx, hcell, hsz⟩
  · simp [Value.cells] at hcs
    obtain ⟨rfl, rfl, rfl⟩ := hcs
    exact ⟨[], rfl, Nat.le_refl _, by omega, (fun h => absurd rfl h), fun s hs => by simp at hs⟩
  · simp [Value.cells] at hcs
    obtain ⟨rfl, rfl, rfl⟩ := hcs
    simp only [if_true] at hz
    have hd : d = .slice (strs (ss.take len)) (strs (ss.drop len)) := congrArg Prod.fst hx
    refine ⟨ss.take len, by simp; omega, hl, by unfold maxLen at hm; omega, ls_of fun i u hu => ?_, fun s hs => ?_⟩
    · rw [List.getElem?_map, List.getElem?_take] at hu
      split at hu
      · rename_i hi
        have hi' : i < ss.length := by omega
        rw [List.getElem?_eq_getElem hi'] at hu
        have hc := hcell i hi'
        rw [hc, ← hu]
        simp [List.getD_eq_getElem?_getD, List.getElem?_eq_getElem hi']
      · simp at hu
    · have hm1 : s.data.toList.length ∈ d.weights Tryz.prog 28 := by
        rw [hd]
        simp only [DataW.weights, Tryz.underlying28]
        refine List.mem_cons_of_mem _ (List.mem_append_left _ ?_)
        exact weights_all (d := .lit (.string s.data.toList)) (List.mem_map.2 ⟨s, hs, rfl⟩) (by simp [DataW.weights])
      have := hw _ hm1
      rw [Array.length_toList] at this
      exact Nat.le_trans this (by decide)

set_option maxRecDepth 100000 in
theorem fltPrints_lifted (os : Os) (started : os.Started) (H : Type) (enc : TypeId × Value → H) :
    ReturnsInHanded {} Tryz.checked os 5 .any (fun w args => (Rows.fltPrintsSpec.pre enc Tryz.prog Tryz.f5 [] false w args ∧ laidMetH Tryz.prog laidAll w) ∧ sizedMet enc Tryz.prog Tryz.f5 (OpenSpec.ofChange Rows.fltPrintsSpec) false w args)
      (Rows.fltPrintsSpec.post enc Tryz.prog Tryz.f5 false true false false) := by
  refine returnsInHanded_of_calls (C := Tryz.checked) own started (by kernel_rfl)
    (ChangeSpec.witness_shaped (enc := enc) (C := Tryz.checked) (os := os) (X := fun w _ => laidMetH Tryz.prog laidAll w) false (World.laidAll Tryz.prog os laidAll) #[.slice none 0 0, .slice none 0 0] 8 (World.laidAll_os _ _ _) (laid_shaped os _) (by kernel_rfl) (by kernel_rfl) (by kernel_rfl) (laid_met os _)) ?_
  intro w0 tape i _ hsh _ hok hpre _
  obtain ⟨_, _, _, fn', hfn', _, _, _, _, hval0⟩ := hok
  obtain rfl : Tryz.f5 = fn' := Option.some.inj (Tryz.func5.symm.trans hfn')
  obtain ⟨⟨⟨ds, gs, before, hw0, _⟩, hx⟩, hz⟩ := hpre
  have hW := DataW.Whole.of_heap (w' := w0.forCall tape i) (by rfl) hw0
  have hsz := hz.weights hw0
  have hL : laidMetH Tryz.prog laidAll (w0.forCall tape i) := hx.of_heap (by rfl)
  have T := all_of_laid (laid_plain hL) (blk_here hsh)
  refine Calls.mono (R := fun e W' => ∃ v, e = .returned v ∧ Rows.fltPrintsSpec.post enc Tryz.prog Tryz.f5 false true false false (w0.forCall tape i) i.args v W') ?_ (fun e W' ⟨v, he, hp⟩ => by subst he; exact ChangeSpec.post_blind hp)
  obtain ⟨base, hbase⟩ : ∃ b, w0.heap.size = b := ⟨_, rfl⟩
  rw [hbase] at hval0
  generalize w0.forCall tape i = W at *
  generalize i.args = args at *
  have hval : ∀ (j : Nat) t v, Tryz.f5.params[j]? = some t → args[j]? = some v → Value.okWide Tryz.prog W .any base t v := hval0
  have hW' := hW
  obtain ⟨p, q, hA0, hV, rfl, hfz, hnd⟩ := hW
  have hA : DataW.TrodAll enc Tryz.prog W 0 (fun _ => true) true Tryz.f5.params.toList args.toList ds p := hA0
  rw [Tryz.params5] at hA hval
  obtain ⟨v0, vs0, d0, ds0, p0, q0, hargs, rfl, rfl, h0, r0⟩ := trodAll_cons hA
  obtain ⟨v1, vs1, d1, ds1, p1, q1, rfl, rfl, rfl, h1, r1⟩ := trodAll_cons r0
  obtain ⟨rfl, rfl, rfl⟩ := trodAll_nil r1
  obtain rfl : args = #[v0, v1] := by cases args; simp_all
  obtain ⟨rfl, rfl⟩ := trodVars_none hV
  obtain ⟨a0, n0, c0, rfl⟩ := okWide_slice Tryz.underlying27 (hval 0 27 v0 rfl rfl)
  obtain ⟨l0, rfl, x0, y0, z0⟩ := view_i64 h0
  obtain ⟨a1, n1, c1, rfl⟩ := okWide_slice Tryz.underlying28 (hval 1 28 v1 rfl rfl)
  have hw1 : ∀ n, n ∈ d1.weights Tryz.prog 28 → n ≤ reachBytes := fun n hn => by
    have := List.all_eq_true.1 hsz n (DataW.weights_mem_each (j := 1) (t := 28) (d := d1) (by rw [Tryz.params5]; rfl) rfl n hn)
    simpa using this
  obtain ⟨l1, rfl, x1, y1, z1, u1⟩ := view_strs h1 hw1
  clear hA0 hval0
  simp only [List.append_nil] at hW'
  have hlt : ∀ x ∈ p0 ++ p1, x.block < W.heap.size := fun x hx => by simpa using hW'.lt x (by simpa using hx)
  refine (fltPrints_walk a0 a1 l0 l1 c0 c1 x0 x1 y0 y1 u1 W T z0 z1).mono fun e W' ⟨he, hg⟩ => ?_
  subst he
  refine ⟨_, rfl, _, _, _, [], p0 ++ (p1 ++ ([])), [], hW', ?_, ?_, rfl, hg.frame _, fun h => by cases h⟩
  · exact trodAll_mk1 (shut_bool Tryz.underlying4 _)
  · exact (trodAll_cons_mk (Below.trod laidOutT (by kernel_rfl) (of_decide_eq_true (by kernel_rfl)) h0 hg (fun x hx => hlt x (by simp [hx]))) (trodAll_cons_mk (Below.trod laidOutT (by kernel_rfl) (of_decide_eq_true (by kernel_rfl)) h1 hg (fun x hx => hlt x (by simp [hx]))) trodAll_mk0))

theorem fltPrints_row : Rows.FltPrintsSaid :=
  OpenClaim.holds_of_wide 5 Tryz.f5 rfl rfl rfl rfl rfl rfl rfl ⟨rfl, rfl, rfl, rfl, rfl⟩ rfl rfl rfl rfl rfl (by kernel_rfl) Tryz.func5 (by kernel_rfl)
    (of_decide_eq_true (by kernel_rfl)) (by unfold Func.isWrapper; first | (rw [if_pos (by decide +kernel)]; kernel_rfl) | (rw [if_neg (by decide +kernel)]; exact ⟨rfl, rfl⟩))
    (fun os started H enc _ => fltPrints_lifted os started H enc)

theorem fltPrints_holds : Rows.FltPrintsCardSaid :=
  Claim7.holds_tied_plain_at .later [] [.data, .data, .widerDeep, .widerDeep, .data, .data, .data, .data, .data, .sentinel, .sentinel, .pinned, .pinned] true (true, "1345090ad482de718ef0cbb99e94bde6515c2e25e021517c6453dab2e3b8b93c") true
    fltPrints_row (fun _ h => by cases h) (by kernel_rfl) (fun _ h => by cases h) fltPrints_row_tie rfl ⟨rfl, rfl⟩ (by kernel_rfl) rfl
    (fun f fn hf hfn => by
      obtain rfl : f = 5 := Option.some.inj ((show Tryz.prog.funcNamed Rows.fltPrintsRow.func = some 5 by kernel_rfl).symm.trans hf) |>.symm
      obtain rfl : fn = Tryz.f5 := (Option.some.inj (Tryz.func5.symm.trans hfn)).symm
      exact ⟨by kernel_rfl, fun j t ht => by
        rw [Tryz.params5] at ht
        have hm : t ∈ [27, 28] := by simpa using Array.mem_of_getElem? ht
        have hall : ([27, 28].all fun u => !Tryz.prog.wantsStandIn u) = true := by kernel_rfl
        exact (show Tryz.prog.wantsStandIn t = false by simpa using List.all_eq_true.1 hall t hm)⟩)
    (by kernel_rfl)
#print axioms fltPrints_holds
end Go.Proofs.YtadlppllbebkdaaGreatDoor
