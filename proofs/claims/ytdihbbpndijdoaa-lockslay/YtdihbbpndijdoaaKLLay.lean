/- LocksLay returns true, whatever comes in, and leaves it as it was. -/
import Derived.Test.YtdihbbpndijdoaaKLBase
import Derived.Test.YtdihbbpndijdoaaKY3
namespace Go.Proofs.Ytdihbbpndijdoaa
open Go.ChangeShapes Go.WideShapes Go.ChangeAt Go.RowKit

/-- A list of things that lie flat, each of one cell, and how each reads. -/
theorem view_one {H : Type} {enc : TypeId × Value → H} {W : World} {α : Type} (f : α → List Value) (c : Nat) (hc : 0 < c) (hfl : ∀ x, (f x).length = c) (Px : α → DataW H → Prop) {t e : TypeId} (ht : Try.prog.underlying t = some (.slice e)) (hce : Try.prog.cellsOf e = c)
    (hel : ∀ fuel cs y, DataW.trod enc Try.prog W 0 (fun _ => true) true fuel e cs = some y → ∃ x, cs = f x ∧ Px x y.1)
    {a : Option Addr} {len cap : Nat} {d : DataW H} {p : List MemPlace} (h : DataW.Trod enc Try.prog W 0 (fun _ => true) true t (.slice a len cap) d p) :
    ∃ l : List α, l.length = len ∧ Rd W a (l.flatMap f) ∧ (len = 0 ∨ ∃ elems spare, d = .slice elems spare ∧ len ≤ elems.length + spare.length ∧ ∀ x ∈ l, ∃ y ∈ elems, Px x y) := by
  obtain ⟨fuel, hf⟩ := h
  rcases DataW.trod_slice ht hf with ⟨hcs, hx⟩ | ⟨a', len', cap', elems, rest, n, _, hcs, hx, hb, hl, hm, hlen, hell, hx2, hx3⟩
  · simp [Value.cells] at hcs
    obtain ⟨rfl, rfl, rfl⟩ := hcs
    exact ⟨[], rfl, fun j u hj => by simp at hj, .inl rfl⟩
  · simp [Value.cells] at hcs
    obtain ⟨rfl, rfl, rfl⟩ := hcs
    have each : ∀ i, i < len → ∃ x : α, (∀ r, r < c → W.cell? ((a'.add (i * c)).add r) = (f x)[r]?) ∧ ∃ y ∈ elems, Px x y.1 := by
      intro i hi
      have h1 := hell i hi
      have h2 : ∃ y, elems[i]? = some y := ⟨_, List.getElem?_eq_getElem (by omega)⟩
      obtain ⟨y, hy⟩ := h2
      rw [hy, hce, Option.bind_eq_some_iff] at h1
      obtain ⟨cs, hc', ht'⟩ := h1
      obtain ⟨x, rfl, hpx⟩ := hel _ _ _ ht'
      have hcell := (World.cells?_some hc').2.2
      refine ⟨x, fun r hr => ?_, y, List.mem_of_getElem? hy, hpx⟩
      rw [hcell r hr]
    have all : ∀ k, k ≤ len → ∃ l : List α, l.length = k ∧ (∀ j u, (l.flatMap f)[j]? = some u → W.cell? ((a'.add (j / c * c)).add (j % c)) = some u) ∧ ∀ x ∈ l, ∃ y ∈ elems, Px x y.1 := by
      intro k
      induction k with
      | zero => intro _; exact ⟨[], rfl, fun j u hj => by simp at hj, fun x hx => by simp at hx⟩
      | succ k ih =>
        intro hk
        obtain ⟨l, hl', hall, hpx⟩ := ih (by omega)
        obtain ⟨x, hx, hfx⟩ := each k (by omega)
        have hfm : (l.flatMap f).length = k * c := by
          rw [List.length_flatMap]
          have : (l.map fun x => (f x).length) = List.replicate l.length c := by
            rw [List.eq_replicate_iff]
            exact ⟨by simp, fun y hy => by obtain ⟨z, _, rfl⟩ := List.mem_map.mp hy; exact hfl z⟩
          rw [this, hl']
          simp
        refine ⟨l ++ [x], by simp [hl'], fun j u hj => ?_, fun y hy => ?_⟩
        · rw [List.flatMap_append, List.flatMap_cons, List.flatMap_nil, List.append_nil] at hj
          by_cases hjk : j < k * c
          · rw [List.getElem?_append_left (by omega)] at hj
            exact hall j u hj
          · rw [List.getElem?_append_right (by omega), hfm] at hj
            have hr : j - k * c < c := by
              rcases Nat.lt_or_ge (j - k * c) c with h | h
              · exact h
              · rw [List.getElem?_eq_none (by rw [hfl]; exact h)] at hj; cases hj
            have e1 : j / c = k := by
              rw [show j = (j - k * c) + c * k by rw [Nat.mul_comm c k]; omega, Nat.add_mul_div_left _ _ hc, Nat.div_eq_of_lt hr]
              omega
            have e2 : j % c = j - k * c := by
              have := Nat.div_add_mod j c
              rw [e1, Nat.mul_comm] at this
              omega
            rw [e1, e2, hx _ hr, hj]
        · rcases List.mem_append.1 hy with h | h
          · exact hpx y h
          · simp at h; rw [h]; exact hfx
    obtain ⟨l, hl', hall, hpx⟩ := all len (Nat.le_refl _)
    refine ⟨l, hl', fun j u hj => ?_, .inr ⟨_, _, congrArg Prod.fst hx, by simp; omega, fun x hx => by
      obtain ⟨y, hy, hp⟩ := hpx x hx
      exact ⟨y.1, List.mem_map.2 ⟨y, hy, rfl⟩, hp⟩⟩⟩
    · have h1 := hall j u hj
      obtain ⟨b, off, spot⟩ := a'
      have hspot : spot = none := by
        have hj0 : 0 < (l.flatMap f).length := by
          rcases Nat.eq_zero_or_pos (l.flatMap f).length with h | h
          · rw [List.eq_nil_of_length_eq_zero h] at hj; simp at hj
          · exact h
        have h0 := hall 0 _ (List.getElem?_eq_getElem hj0)
        rw [Nat.zero_div, Nat.zero_mul, Nat.zero_mod] at h0
        simpa [Addr.add] using World.cell?_spot h0
      subst hspot
      rw [addr_add, addr_add, Nat.add_assoc, Nat.mul_comm, Nat.div_add_mod] at h1
      exact ⟨b, off, rfl, h1⟩

theorem cellsLI : Try.prog.cellsOf 33 = 1 := by kernel_rfl
theorem bytesLI : Try.prog.bytesOf 33 = 24 := by kernel_rfl
theorem sC_flat (l : List Qe) : l.flatMap (fun x => [sV x]) = sC l := by
  induction l with
  | nil => rfl
  | cons x r ih => rw [List.flatMap_cons, ih]; rfl
/-- A list of lists of whole numbers. -/
theorem view_lists {H : Type} {enc : TypeId × Value → H} {W : World} {a : Option Addr} {len cap : Nat} {d : DataW H} {p : List MemPlace} (h : DataW.Trod enc Try.prog W 0 (fun _ => true) true 34 (.slice a len cap) d p) :
    ∃ l : List Qe, l.length = len ∧ Rd W a (sC l) ∧ (len = 0 ∨ ∃ elems spare, d = .slice elems spare ∧ len ≤ elems.length + spare.length ∧ ∀ x ∈ l, ∃ y ∈ elems, Rd W x.1 (iC x.2.2) ∧ (∀ z ∈ x.2.2, Fit64 z) ∧ (x.2.2.length = 0 ∨ ∃ el sp, y = .slice el sp ∧ x.2.2.length ≤ el.length + sp.length)) := by
  obtain ⟨l, h1, h2, h3⟩ := view_one (fun x : Qe => [sV x]) 1 (by decide) (fun _ => rfl) (fun x y => Rd W x.1 (iC x.2.2) ∧ (∀ z ∈ x.2.2, Fit64 z) ∧ (x.2.2.length = 0 ∨ ∃ el sp, y = .slice el sp ∧ x.2.2.length ≤ el.length + sp.length)) Try.underlying34 cellsLI (fun fuel cs y hy => by
    obtain ⟨a', len', cap', rfl⟩ : ∃ a len cap, cs = [.slice a len cap] := by
      rcases DataW.trod_slice Try.underlying33 hy with ⟨hcs, _⟩ | ⟨a', len', cap', _, _, _, _, hcs, _⟩
      · exact ⟨none, 0, 0, hcs⟩
      · exact ⟨some a', len', cap', hcs⟩
    obtain ⟨q, rfl, hR, hF, hdd⟩ := view_nums Try.underlying33 Try.underlying3 cellsInt (a := a') (len := len') (cap := cap') (d := y.1) (p := y.2) ⟨fuel, hy⟩
    exact ⟨(a', cap', q), rfl, hR, hF, hdd⟩) h
  rw [sC_flat] at h2
  exact ⟨l, h1, h2, h3⟩
theorem weights_all {H : Type} {P : Program} {e : TypeId} : ∀ {ds : List (DataW H)} {d : DataW H}, d ∈ ds → ∀ n ∈ d.weights P e, n ∈ DataW.weightsAll P e ds
  | d0 :: ds, d, hd, n, hn => by
    simp only [DataW.weightsAll, List.mem_append]
    rcases List.mem_cons.1 hd with rfl | h
    · exact .inl hn
    · exact .inr (weights_all h n hn)
  | [], _, hd, _, _ => by cases hd

theorem locksLay_walk {w : World} {a0 a1 a2 : Option Addr} {c0 c1 c2 : Nat} {os : List Int} {ea : List Qe} {sc : List Op3} (hR0 : Rd w a0 (iC os)) (hR1 : RdQ w a1 ea) (hR2 : Rd w a2 (opC sc)) (hf0 : ∀ o ∈ os, Fit64 o) (hf1 : ∀ i, ∀ p ∈ qAt (qsOf ea) i, Fit64 p) (hf2 : ∀ x ∈ sc, Fit64 x.2.2) (hlq : ∀ i, (eAt ea i).2.2.length ≤ 100000000000000) (hlen : sc.length < 5900000000000) :
    Calls Try.prog 5 #[.slice a0 os.length c0, .slice a1 ea.length c1, .slice a2 sc.length c2] w fun e w' => e = .returned (.bool true) ∧ Below w.heap.size w w' := by
  by_cases h : 20 < os.length ∨ 20 < ea.length
  · exact lay_long h
  · exact lay_short (by omega) (by omega) hR0 hR1 hR2 (hd rfl) (hd rfl) (hd rfl) hf0 hf1 hf2 hlq hlen

set_option maxRecDepth 100000 in
theorem locksLay_lifted (os : Os) (started : os.Started) (H : Type) (enc : TypeId × Value → H) :
    ReturnsInHanded {} Try.checked os 5 .any (Rows.locksLaySpec.pre6 enc Try.prog Try.f5 Rows.locksLayRow.domain false) (Rows.locksLaySpec.post enc Try.prog Try.f5 false true false false) := by
  refine returnsInHanded_of_change_sized (C := Try.checked) ownK started (by kernel_rfl) Try.func5
    (ChangeSpec.witness6 (enc := enc) (C := Try.checked) false ⟨#[], #[.slice none 0 0, .slice none 0 0, .slice none 0 0], []⟩ 8 (by kernel_rfl) (by kernel_rfl) (by kernel_rfl) (by kernel_rfl)) ?_
  intro W base args ds gs before hval0 hW hcnd hsz _
  have hval : ∀ (j : Nat) t v, Try.f5.params[j]? = some t → args[j]? = some v → Value.okWide Try.prog W .any base t v := hval0
  have hW' := hW
  obtain ⟨p, q, hA0, hV, rfl, hfz, hnd⟩ := hW
  have hA : DataW.TrodAll enc Try.prog W 0 (fun _ => true) true Try.f5.params.toList args.toList ds p := hA0
  rw [Try.params5] at hA hval
  obtain ⟨v0, vs0, d0, ds0, p0, q0, hargs, rfl, rfl, h0, r0⟩ := trodAll_cons hA
  obtain ⟨v1, vs1, d1, ds1, p1, q1, rfl, rfl, rfl, h1, r1⟩ := trodAll_cons r0
  obtain ⟨v2, vs2, d2, ds2, p2, q2, rfl, rfl, rfl, h2, r2⟩ := trodAll_cons r1
  obtain ⟨rfl, rfl, rfl⟩ := trodAll_nil r2
  obtain rfl : args = #[v0, v1, v2] := by cases args; simp_all
  obtain ⟨rfl, rfl⟩ := trodVars_none hV
  obtain ⟨x0, n0, c0, rfl⟩ := okWide_slice Try.underlying33 (hval 0 33 v0 rfl rfl)
  obtain ⟨x1, n1, c1, rfl⟩ := okWide_slice Try.underlying34 (hval 1 34 v1 rfl rfl)
  obtain ⟨x2, n2, c2, rfl⟩ := okWide_slice Try.underlying23 (hval 2 23 v2 rfl rfl)
  obtain ⟨l0, rfl, hR0, hF0, hd0⟩ := view_nums Try.underlying33 Try.underlying3 cellsInt h0
  obtain ⟨l1, rfl, hR1, hd1⟩ := view_lists h1
  obtain ⟨l2, rfl, hR2, hF2, hd2⟩ := view_ops h2
  clear hA0 hval0
  have hlen2 : l2.length < 5900000000000 := by
    rcases hd2 with h | ⟨elems, spare, rfl, h⟩
    · omega
    · have hz := sized_slice hsz (j := 2) (t := 23) (e := 41) (elems := elems) (spare := spare) (by rw [Try.params5]; rfl) rfl Try.underlying23
      have hz : (elems.length + spare.length) * Try.prog.bytesOf 41 ≤ reachBytes := hz
      rw [bytesOp] at hz
      have := reachBytes_lt
      omega
  have hin : ∀ x ∈ l1, Rd W x.1 (iC x.2.2) ∧ (∀ z ∈ x.2.2, Fit64 z) ∧ x.2.2.length ≤ 100000000000000 := fun x hx => by
    rcases hd1 with h | ⟨elems, spare, rfl, h, hall⟩
    · rw [List.eq_nil_of_length_eq_zero h] at hx; cases hx
    · obtain ⟨y, hy, k1, k2, k3⟩ := hall x hx
      refine ⟨k1, k2, ?_⟩
      rcases k3 with k3 | ⟨el, sp, rfl, k3⟩
      · omega
      · have hm : (el.length + sp.length) * Try.prog.bytesOf 3 ∈ (DataW.slice elems spare).weights Try.prog 34 := by
          simp only [DataW.weights, Try.underlying34]
          exact List.mem_cons_of_mem _ (List.mem_append_left _ (weights_all hy _ (by simp [DataW.weights, Try.underlying33])))
        have hz := List.all_eq_true.1 hsz _ (DataW.weights_mem_each (j := 1) (t := 34) (d := DataW.slice elems spare) (by rw [Try.params5]; rfl) rfl _ hm)
        have hz : (el.length + sp.length) * Try.prog.bytesOf 3 ≤ reachBytes := by simpa using hz
        rw [bytesInt] at hz
        have := reachBytes_lt
        omega
  have heAt : ∀ i, i < l1.length → eAt l1 i ∈ l1 := fun i hi => by
    unfold eAt
    rw [List.getD_eq_getElem?_getD, List.getElem?_eq_getElem hi]
    exact List.getElem_mem hi
  have heOut : ∀ i, ¬ i < l1.length → eAt l1 i = (none, 0, []) := fun i hi => by
    unfold eAt
    rw [List.getD_eq_getElem?_getD, List.getElem?_eq_none (by omega)]
    rfl
  have hRQ : RdQ W x1 l1 := ⟨hR1, fun i hi => (hin _ (heAt i hi)).1⟩
  have hF1 : ∀ i, ∀ p ∈ qAt (qsOf l1) i, Fit64 p := fun i p hp => by
    rw [qAt_of] at hp
    by_cases hi : i < l1.length
    · exact (hin _ (heAt i hi)).2.1 p hp
    · rw [heOut i hi] at hp; cases hp
  have hLQ : ∀ i, (eAt l1 i).2.2.length ≤ 100000000000000 := fun i => by
    by_cases hi : i < l1.length
    · exact (hin _ (heAt i hi)).2.2
    · rw [heOut i hi]; exact Nat.zero_le _
  simp only [List.append_nil] at hW'
  have hlt : ∀ x ∈ p0 ++ (p1 ++ p2), x.block < W.heap.size := fun x hx => by simpa using hW'.lt x (by simpa using hx)
  refine (locksLay_walk (c0 := c0) (c1 := c1) (c2 := c2) hR0 hRQ hR2 hF0 hF1 hF2 hLQ hlen2).mono fun e W' ⟨he, hg⟩ => ?_
  subst he
  refine ⟨_, rfl, _, _, _, [], p0 ++ (p1 ++ (p2 ++ ([]))), [], hW', ?_, ?_, rfl, hg.frame _, fun h => by cases h⟩
  · exact trodAll_mk1 (shut_bool Try.underlying4 _)
  · exact (trodAll_cons_mk (Below.trod laidOut (by kernel_rfl) (of_decide_eq_true (by kernel_rfl)) h0 hg (fun x hx => hlt x (by simp [hx]))) (trodAll_cons_mk (Below.trod laidOut (by kernel_rfl) (of_decide_eq_true (by kernel_rfl)) h1 hg (fun x hx => hlt x (by simp [hx]))) (trodAll_cons_mk (Below.trod laidOut (by kernel_rfl) (of_decide_eq_true (by kernel_rfl)) h2 hg (fun x hx => hlt x (by simp [hx]))) trodAll_mk0)))

theorem locksLay_holds : Rows.LocksLaySaid :=
  OpenClaim.holds_of_wide 5 Try.f5 rfl rfl rfl rfl rfl rfl rfl ⟨rfl, rfl, rfl, rfl, rfl⟩ rfl rfl rfl rfl rfl (by kernel_rfl) Try.func5 (by kernel_rfl)
    (of_decide_eq_true (by kernel_rfl)) (by unfold Func.isWrapper; first | (rw [if_pos (by decide +kernel)]; kernel_rfl) | (rw [if_neg (by decide +kernel)]; exact ⟨rfl, rfl⟩))
    (fun os started H enc _ => locksLay_lifted os started H enc)
#print axioms locksLay_holds
end Go.Proofs.Ytdihbbpndijdoaa
