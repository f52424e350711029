/- What came in, as the walks ask it: configs and states. -/
import Derived.Test.YtjbmljheepomnaaRows
import Derived.Test.YtjbmljheepomnaaVG
import Derived.Test.YtjbmljheepomnaaVO1
import Derived.ProofKit
import Derived.OpenShut
import Derived.SizedLaws
import Derived.Lib.OwnBridge
namespace Go.Proofs.Ytjbmljheepomnaa
open Go.ChangeShapes Go.WideShapes Go.ChangeAt Go.RowKit

theorem ownK : ownKnob Try.prog.godebug = none := by kernel_rfl
theorem laidOut : laidOutB Try.prog = true := by kernel_rfl
theorem weights_all {H : Type} {P : Program} {e : TypeId} : ∀ {l : List (DataW H)} {d : DataW H} {n : Nat}, d ∈ l → n ∈ d.weights P e → n ∈ DataW.weightsAll P e l
  | [], _, _, h, _ => by simp at h
  | x :: l, d, n, h, hn => by
    simp only [DataW.weightsAll, List.mem_append]
    rcases List.mem_cons.1 h with rfl | h
    · exact .inl hn
    · exact .inr (weights_all h hn)
theorem len2 {α : Type} (l : List α) (h : l.length = 2) : ∃ c0 c1, l = [c0, c1] := by
  match l, h with
  | [c0, c1], _ => exact ⟨c0, c1, rfl⟩
theorem len3 {α : Type} (l : List α) (h : l.length = 3) : ∃ c0 c1 c2, l = [c0, c1, c2] := by
  match l, h with
  | [c0, c1, c2], _ => exact ⟨c0, c1, c2, rfl⟩
theorem len4 {α : Type} (l : List α) (h : l.length = 4) : ∃ c0 c1 c2 c3, l = [c0, c1, c2, c3] := by
  match l, h with
  | [c0, c1, c2, c3], _ => exact ⟨c0, c1, c2, c3, rfl⟩
theorem len6 {α : Type} (l : List α) (h : l.length = 6) : ∃ c0 c1 c2 c3 c4 c5, l = [c0, c1, c2, c3, c4, c5] := by
  match l, h with
  | [c0, c1, c2, c3, c4, c5], _ => exact ⟨c0, c1, c2, c3, c4, c5, rfl⟩
theorem len7 {α : Type} (l : List α) (h : l.length = 7) : ∃ c0 c1 c2 c3 c4 c5 c6, l = [c0, c1, c2, c3, c4, c5, c6] := by
  match l, h with
  | [c0, c1, c2, c3, c4, c5, c6], _ => exact ⟨c0, c1, c2, c3, c4, c5, c6, rfl⟩
theorem len8 {α : Type} (l : List α) (h : l.length = 8) : ∃ c0 c1 c2 c3 c4 c5 c6 c7, l = [c0, c1, c2, c3, c4, c5, c6, c7] := by
  match l, h with
  | [c0, c1, c2, c3, c4, c5, c6, c7], _ => exact ⟨c0, c1, c2, c3, c4, c5, c6, c7, rfl⟩
theorem len15 {α : Type} (l : List α) (h : l.length = 15) : ∃ c0 c1 c2 c3 c4 c5 c6 c7 c8 c9 c10 c11 c12 c13 c14, l = [c0, c1, c2, c3, c4, c5, c6, c7, c8, c9, c10, c11, c12, c13, c14] := by
  match l, h with
  | [c0, c1, c2, c3, c4, c5, c6, c7, c8, c9, c10, c11, c12, c13, c14], _ => exact ⟨c0, c1, c2, c3, c4, c5, c6, c7, c8, c9, c10, c11, c12, c13, c14, rfl⟩
section
variable {H : Type} {enc : TypeId × Value → H} {W : World}
/-- A datum whose lists are within reach. -/
def Rch (t : TypeId) (d : DataW H) : Prop := ∀ m ∈ d.weights Try.prog t, m ≤ reachBytes
theorem raw_de {α : Type} [Inhabited α] {t e : TypeId} {sz bytes fuel : Nat} {cs : List Value} {x : DataW H × List MemPlace} (E : World → List Value → α → Prop) (hs : 0 < sz) (ht : Try.prog.underlying t = some (.slice e)) (hc : Try.prog.cellsOf e = sz) (hby : Try.prog.bytesOf e = bytes) (h8 : 8 ≤ bytes)
    (each : ∀ n cs y, DataW.trod enc Try.prog W 0 (fun _ => true) true n e cs = some y → Rch e y.1 → cs.length = sz → ∃ x, E W cs x)
    (h : DataW.trod enc Try.prog W 0 (fun _ => true) true fuel t cs = some x) (hw : Rch t x.1) : ∃ v xs, cs = [v] ∧ DeR sz E W v xs := by
  rcases DataW.trod_slice ht h with ⟨hcs, hx⟩ | ⟨a', len, cap, elems, rest, n, _, hcs, hx, hb, hl, hm, hlen, hel, _, _⟩
  · exact ⟨_, [], hcs, DeR.nil⟩
  · rw [hc] at hel
    have hwe : ∀ m ∈ ((elems.length + rest.length) * Try.prog.bytesOf e :: (DataW.weightsAll Try.prog e (elems.map (·.1)) ++ DataW.weightsAll Try.prog e (rest.map (·.1)))), m ≤ reachBytes := fun m hm' => hw m (by rw [hx]; simp only [DataW.weights, ht, List.length_map]; exact hm')
    have hbig : len ≤ BIG := by
      have h1 := hwe _ (List.mem_cons_self)
      rw [hby] at h1
      have h2 : (elems.length + rest.length) * 8 ≤ (elems.length + rest.length) * bytes := Nat.mul_le_mul_left _ h8
      unfold reachBytes at h1
      unfold BIG
      omega
    have key : ∀ i, ∃ cx : List Value × α, i < len → (∀ r, r < sz → W.cell? ((a'.add (i * sz)).add r) = cx.1[r]?) ∧ cx.1.length = sz ∧ E W cx.1 cx.2 := by
      intro i
      by_cases hi : i < len
      · have h1 := hel i hi
        obtain ⟨y, hy⟩ : ∃ y, elems[i]? = some y := ⟨_, List.getElem?_eq_getElem (by omega)⟩
        rw [hy, Option.bind_eq_some_iff] at h1
        obtain ⟨ds, hd1, hd2⟩ := h1
        have hcl := World.cells?_some hd1
        have hln : ds.length = sz := hcl.2.1
        obtain ⟨z, hz⟩ := each _ _ _ hd2 (fun m hm' => hwe m (List.mem_cons_of_mem _ (List.mem_append_left _ (weights_all (List.mem_map.2 ⟨y, List.mem_of_getElem? hy, rfl⟩) hm')))) hln
        exact ⟨(ds, z), fun _ => ⟨hcl.2.2, hln, hz⟩⟩
      · exact ⟨([], default), fun h => absurd h hi⟩
    obtain ⟨f, hf⟩ := Classical.axiomOfChoice key
    have hcsl : ((List.range len).map fun i => (f i).1).length = len := by simp
    have hcsi : ∀ i, i < len → ((List.range len).map fun i => (f i).1).getD i [] = (f i).1 := fun i hi => by
      rw [List.getD_eq_getElem?_getD, List.getElem?_map, List.getElem?_range hi]
      rfl
    have hxsi : ∀ i, i < len → ((List.range len).map fun i => (f i).2).getD i default = (f i).2 := fun i hi => by
      rw [List.getD_eq_getElem?_getD, List.getElem?_map, List.getElem?_range hi]
      rfl
    have hlens : ∀ i, i < ((List.range len).map fun i => (f i).1).length → (((List.range len).map fun i => (f i).1).getD i []).length = sz := fun i hi => by
      rw [hcsl] at hi
      rw [hcsi i hi]
      exact (hf i hi).2.1
    refine ⟨_, (List.range len).map fun i => (f i).2, hcs, some a', cap, (List.range len).map fun i => (f i).1, by simp, fun j u hj => ?_, by simp, by simpa using hbig, fun i hi => ?_⟩
    · have hj' : j < len * sz := by
        have := (List.getElem?_eq_some_iff.1 hj).1
        rw [flat_lens _ hlens, hcsl] at this
        exact this
      have hi : j / sz < len := Nat.div_lt_of_lt_mul (by rw [Nat.mul_comm]; exact hj')
      have hr : j % sz < sz := Nat.mod_lt _ hs
      have hjj : j / sz * sz + j % sz = j := by rw [Nat.mul_comm]; exact Nat.div_add_mod j sz
      have h2 := (hf (j / sz) hi).1 (j % sz) hr
      have h3 := flat_cell _ hlens (j / sz) (j % sz) (by rw [hcsl]; exact hi) hr
      rw [hcsi _ hi, hjj, hj] at h3
      rw [← h3] at h2
      obtain ⟨b, off, spot⟩ := a'
      have h0 := hf 0 (Nat.lt_of_le_of_lt (Nat.zero_le _) hi)
      have h00 := h0.1 0 hs
      rw [List.getElem?_eq_getElem (by rw [h0.2.1]; exact hs)] at h00
      have hspot : spot = none := by simpa [Addr.add] using World.cell?_spot h00
      subst hspot
      rw [addr_add, addr_add, Nat.add_assoc, hjj] at h2
      exact ⟨b, off, rfl, h2⟩
    · have hi' : i < len := by simpa using hi
      rw [hcsi i hi', hxsi i hi']
      exact (hf i hi').2
theorem cint : Try.prog.cellsOf 3 = 1 := by kernel_rfl
theorem ci64 : Try.prog.cellsOf 2 = 1 := by kernel_rfl
theorem cu64 : Try.prog.cellsOf 31 = 1 := by kernel_rfl
theorem cbool : Try.prog.cellsOf 4 = 1 := by kernel_rfl
theorem cLint : Try.prog.cellsOf 23 = 1 := by kernel_rfl
theorem cLLint : Try.prog.cellsOf 41 = 1 := by kernel_rfl
theorem cLi64 : Try.prog.cellsOf 50 = 1 := by kernel_rfl
theorem cLu64 : Try.prog.cellsOf 22 = 1 := by kernel_rfl
theorem cLEntry : Try.prog.cellsOf 40 = 1 := by kernel_rfl
theorem cLWaiter : Try.prog.cellsOf 51 = 1 := by kernel_rfl
theorem cLLane : Try.prog.cellsOf 47 = 1 := by kernel_rfl
theorem cLPart : Try.prog.cellsOf 27 = 1 := by kernel_rfl
theorem cLProcess : Try.prog.cellsOf 28 = 1 := by kernel_rfl
theorem cLProc : Try.prog.cellsOf 24 = 1 := by kernel_rfl
theorem cLIns : Try.prog.cellsOf 57 = 1 := by kernel_rfl
theorem cEntry : Try.prog.cellsOf 45 = 3 := by kernel_rfl
theorem cWaiter : Try.prog.cellsOf 55 = 2 := by kernel_rfl
theorem cLane : Try.prog.cellsOf 53 = 4 := by kernel_rfl
theorem cPart : Try.prog.cellsOf 43 = 6 := by kernel_rfl
theorem cProcess : Try.prog.cellsOf 49 = 15 := by kernel_rfl
theorem cProc : Try.prog.cellsOf 59 = 2 := by kernel_rfl
theorem cConfig : Try.prog.cellsOf 26 = 7 := by kernel_rfl
theorem cState : Try.prog.cellsOf 30 = 3 := by kernel_rfl
theorem cRegs : Try.prog.cellsOf 46 = 8 := by kernel_rfl
theorem bint : Try.prog.bytesOf 3 = 8 := by kernel_rfl
theorem bi64 : Try.prog.bytesOf 2 = 8 := by kernel_rfl
theorem bu64 : Try.prog.bytesOf 31 = 8 := by kernel_rfl
theorem bEntry : Try.prog.bytesOf 45 = 24 := by kernel_rfl
theorem bWaiter : Try.prog.bytesOf 55 = 16 := by kernel_rfl
theorem bLint : Try.prog.bytesOf 23 = 24 := by kernel_rfl
theorem bLane : Try.prog.bytesOf 53 = 64 := by kernel_rfl
theorem bPart : Try.prog.bytesOf 43 = 96 := by kernel_rfl
theorem bProcess : Try.prog.bytesOf 49 = 136 := by kernel_rfl
theorem bProc : Try.prog.bytesOf 59 = 32 := by kernel_rfl
theorem raw_i (n : Nat) (cs : List Value) (y : DataW H × List MemPlace) (h : DataW.trod enc Try.prog W 0 (fun _ => true) true n 3 cs = some y) (_ : Rch 3 y.1) (_ : cs.length = 1) : ∃ x, iE W cs x := by
  obtain ⟨z, e, _, _⟩ := DataW.trod_int Try.underlying3 h
  exact ⟨z, e⟩
theorem raw_l (n : Nat) (cs : List Value) (y : DataW H × List MemPlace) (h : DataW.trod enc Try.prog W 0 (fun _ => true) true n 2 cs = some y) (_ : Rch 2 y.1) (_ : cs.length = 1) : ∃ x, iE W cs x := by
  obtain ⟨z, e, _, _⟩ := DataW.trod_int Try.underlying2 h
  exact ⟨z, e⟩
theorem raw_u (n : Nat) (cs : List Value) (y : DataW H × List MemPlace) (h : DataW.trod enc Try.prog W 0 (fun _ => true) true n 31 cs = some y) (_ : Rch 31 y.1) (_ : cs.length = 1) : ∃ x, uE W cs x := by
  obtain ⟨z, e, _, w⟩ := DataW.trod_int Try.underlying31 h
  have := bounds_u64 w
  exact ⟨z.toNat, by rw [e, show (z.toNat : Int) = z by omega], by omega⟩
theorem mem_each {ts : List TypeId} {ys : List (DataW H × List MemPlace)} {j : Nat} {t : TypeId} {y : DataW H × List MemPlace} (hj : ts[j]? = some t) (hy : ys[j]? = some y) (hr : ∀ m ∈ DataW.weightsEach Try.prog ts (ys.map (·.1)), m ≤ reachBytes) : Rch t y.1 := fun m hm => hr m (DataW.weights_mem_each hj (by rw [List.getElem?_map, hy]; rfl) m hm)
set_option maxRecDepth 100000 in
theorem raw_e (n : Nat) (cs : List Value) (y : DataW H × List MemPlace) (h : DataW.trod enc Try.prog W 0 (fun _ => true) true n 45 cs = some y) (hr : Rch 45 y.1) (_ : cs.length = 3) : ∃ x, eE W cs x := by
  obtain ⟨ys, m, _, hys, hcl, hyl, hall⟩ := DataW.trod_struct Try.underlying45 h
  rw [cEntry] at hcl
  have hrr : ∀ m ∈ DataW.weightsEach Try.prog [2, 3, 2] (ys.map (·.1)), m ≤ reachBytes := fun q hq => hr q (by rw [hys]; simp only [DataW.weights, Try.underlying45]; exact hq)
  have t0 : DataW.trod enc Try.prog W 0 (fun _ => true) true m 2 ((cs.drop 0).take (Try.prog.cellsOf 2)) = ys[0]? := hall 0 _ rfl
  rw [ci64] at t0
  have t1 : DataW.trod enc Try.prog W 0 (fun _ => true) true m 3 ((cs.drop 1).take (Try.prog.cellsOf 3)) = ys[1]? := hall 1 _ rfl
  rw [cint] at t1
  have t2 : DataW.trod enc Try.prog W 0 (fun _ => true) true m 2 ((cs.drop 2).take (Try.prog.cellsOf 2)) = ys[2]? := hall 2 _ rfl
  rw [ci64] at t2
  obtain ⟨c0, c1, c2, rfl⟩ := len3 cs hcl
  obtain ⟨z0, z1, z2, rfl⟩ := len3 ys hyl
  obtain ⟨n0, e0, _, _⟩ := DataW.trod_int Try.underlying2 t0
  simp at e0
  subst e0
  obtain ⟨n1, e1, _, _⟩ := DataW.trod_int Try.underlying3 t1
  simp at e1
  subst e1
  obtain ⟨n2, e2, _, _⟩ := DataW.trod_int Try.underlying2 t2
  simp at e2
  subst e2
  exact ⟨(n0, n1, n2), rfl⟩
set_option maxRecDepth 100000 in
theorem raw_w (n : Nat) (cs : List Value) (y : DataW H × List MemPlace) (h : DataW.trod enc Try.prog W 0 (fun _ => true) true n 55 cs = some y) (hr : Rch 55 y.1) (_ : cs.length = 2) : ∃ x, wE W cs x := by
  obtain ⟨ys, m, _, hys, hcl, hyl, hall⟩ := DataW.trod_struct Try.underlying55 h
  rw [cWaiter] at hcl
  have hrr : ∀ m ∈ DataW.weightsEach Try.prog [3, 2] (ys.map (·.1)), m ≤ reachBytes := fun q hq => hr q (by rw [hys]; simp only [DataW.weights, Try.underlying55]; exact hq)
  have t0 : DataW.trod enc Try.prog W 0 (fun _ => true) true m 3 ((cs.drop 0).take (Try.prog.cellsOf 3)) = ys[0]? := hall 0 _ rfl
  rw [cint] at t0
  have t1 : DataW.trod enc Try.prog W 0 (fun _ => true) true m 2 ((cs.drop 1).take (Try.prog.cellsOf 2)) = ys[1]? := hall 1 _ rfl
  rw [ci64] at t1
  obtain ⟨c0, c1, rfl⟩ := len2 cs hcl
  obtain ⟨z0, z1, rfl⟩ := len2 ys hyl
  obtain ⟨n0, e0, _, _⟩ := DataW.trod_int Try.underlying3 t0
  simp at e0
  subst e0
  obtain ⟨n1, e1, _, _⟩ := DataW.trod_int Try.underlying2 t1
  simp at e1
  subst e1
  exact ⟨(n0, n1), rfl⟩
theorem raw_q (n : Nat) (cs : List Value) (y : DataW H × List MemPlace) (h : DataW.trod enc Try.prog W 0 (fun _ => true) true n 23 cs = some y) (hr : Rch 23 y.1) (_ : cs.length = 1) : ∃ x, qE W cs x := by
  obtain ⟨v, l, e, d⟩ := raw_de iE (by decide) Try.underlying23 cint bint (by decide) raw_i h hr
  exact ⟨l, v, e, d⟩
set_option maxRecDepth 100000 in
theorem raw_n (n : Nat) (cs : List Value) (y : DataW H × List MemPlace) (h : DataW.trod enc Try.prog W 0 (fun _ => true) true n 53 cs = some y) (hr : Rch 53 y.1) (_ : cs.length = 4) : ∃ x, lE W cs x := by
  obtain ⟨ys, m, _, hys, hcl, hyl, hall⟩ := DataW.trod_struct Try.underlying53 h
  rw [cLane] at hcl
  have hrr : ∀ m ∈ DataW.weightsEach Try.prog [50, 51, 3, 3] (ys.map (·.1)), m ≤ reachBytes := fun q hq => hr q (by rw [hys]; simp only [DataW.weights, Try.underlying53]; exact hq)
  have t0 : DataW.trod enc Try.prog W 0 (fun _ => true) true m 50 ((cs.drop 0).take (Try.prog.cellsOf 50)) = ys[0]? := hall 0 _ rfl
  rw [cLi64] at t0
  have t1 : DataW.trod enc Try.prog W 0 (fun _ => true) true m 51 ((cs.drop 1).take (Try.prog.cellsOf 51)) = ys[1]? := hall 1 _ rfl
  rw [cLWaiter] at t1
  have t2 : DataW.trod enc Try.prog W 0 (fun _ => true) true m 3 ((cs.drop 2).take (Try.prog.cellsOf 3)) = ys[2]? := hall 2 _ rfl
  rw [cint] at t2
  have t3 : DataW.trod enc Try.prog W 0 (fun _ => true) true m 3 ((cs.drop 3).take (Try.prog.cellsOf 3)) = ys[3]? := hall 3 _ rfl
  rw [cint] at t3
  obtain ⟨c0, c1, c2, c3, rfl⟩ := len4 cs hcl
  obtain ⟨z0, z1, z2, z3, rfl⟩ := len4 ys hyl
  obtain ⟨v0, l0, e0, d0⟩ := (raw_de iE (by decide) Try.underlying50 ci64 bi64 (by decide) raw_l) t0 (mem_each (j := 0) rfl rfl hrr)
  simp at e0
  subst e0
  obtain ⟨v1, l1, e1, d1⟩ := (raw_de wE (by decide) Try.underlying51 cWaiter bWaiter (by decide) raw_w) t1 (mem_each (j := 1) rfl rfl hrr)
  simp at e1
  subst e1
  obtain ⟨n2, e2, _, _⟩ := DataW.trod_int Try.underlying3 t2
  simp at e2
  subst e2
  obtain ⟨n3, e3, _, _⟩ := DataW.trod_int Try.underlying3 t3
  simp at e3
  subst e3
  exact ⟨⟨l0, l1, n2, n3⟩, _, _, rfl, d0, d1⟩
set_option maxRecDepth 100000 in
theorem raw_p (n : Nat) (cs : List Value) (y : DataW H × List MemPlace) (h : DataW.trod enc Try.prog W 0 (fun _ => true) true n 43 cs = some y) (hr : Rch 43 y.1) (_ : cs.length = 6) : ∃ x, pE W cs x := by
  obtain ⟨ys, m, _, hys, hcl, hyl, hall⟩ := DataW.trod_struct Try.underlying43 h
  rw [cPart] at hcl
  have hrr : ∀ m ∈ DataW.weightsEach Try.prog [3, 40, 3, 3, 23, 41] (ys.map (·.1)), m ≤ reachBytes := fun q hq => hr q (by rw [hys]; simp only [DataW.weights, Try.underlying43]; exact hq)
  have t0 : DataW.trod enc Try.prog W 0 (fun _ => true) true m 3 ((cs.drop 0).take (Try.prog.cellsOf 3)) = ys[0]? := hall 0 _ rfl
  rw [cint] at t0
  have t1 : DataW.trod enc Try.prog W 0 (fun _ => true) true m 40 ((cs.drop 1).take (Try.prog.cellsOf 40)) = ys[1]? := hall 1 _ rfl
  rw [cLEntry] at t1
  have t2 : DataW.trod enc Try.prog W 0 (fun _ => true) true m 3 ((cs.drop 2).take (Try.prog.cellsOf 3)) = ys[2]? := hall 2 _ rfl
  rw [cint] at t2
  have t3 : DataW.trod enc Try.prog W 0 (fun _ => true) true m 3 ((cs.drop 3).take (Try.prog.cellsOf 3)) = ys[3]? := hall 3 _ rfl
  rw [cint] at t3
  have t4 : DataW.trod enc Try.prog W 0 (fun _ => true) true m 23 ((cs.drop 4).take (Try.prog.cellsOf 23)) = ys[4]? := hall 4 _ rfl
  rw [cLint] at t4
  have t5 : DataW.trod enc Try.prog W 0 (fun _ => true) true m 41 ((cs.drop 5).take (Try.prog.cellsOf 41)) = ys[5]? := hall 5 _ rfl
  rw [cLLint] at t5
  obtain ⟨c0, c1, c2, c3, c4, c5, rfl⟩ := len6 cs hcl
  obtain ⟨z0, z1, z2, z3, z4, z5, rfl⟩ := len6 ys hyl
  obtain ⟨n0, e0, _, _⟩ := DataW.trod_int Try.underlying3 t0
  simp at e0
  subst e0
  obtain ⟨v1, l1, e1, d1⟩ := (raw_de eE (by decide) Try.underlying40 cEntry bEntry (by decide) raw_e) t1 (mem_each (j := 1) rfl rfl hrr)
  simp at e1
  subst e1
  obtain ⟨n2, e2, _, _⟩ := DataW.trod_int Try.underlying3 t2
  simp at e2
  subst e2
  obtain ⟨n3, e3, _, _⟩ := DataW.trod_int Try.underlying3 t3
  simp at e3
  subst e3
  obtain ⟨v4, l4, e4, d4⟩ := (raw_de iE (by decide) Try.underlying23 cint bint (by decide) raw_i) t4 (mem_each (j := 4) rfl rfl hrr)
  simp at e4
  subst e4
  obtain ⟨v5, l5, e5, d5⟩ := (raw_de qE (by decide) Try.underlying41 cLint bLint (by decide) raw_q) t5 (mem_each (j := 5) rfl rfl hrr)
  simp at e5
  subst e5
  exact ⟨⟨n0, l1, n2, n3, l4, l5⟩, _, _, _, rfl, d1, d4, d5⟩
set_option maxRecDepth 100000 in
theorem raw_r (n : Nat) (cs : List Value) (y : DataW H × List MemPlace) (h : DataW.trod enc Try.prog W 0 (fun _ => true) true n 49 cs = some y) (hr : Rch 49 y.1) (_ : cs.length = 15) : ∃ x, rE W cs x := by
  obtain ⟨ys, m, _, hys, hcl, hyl, hall⟩ := DataW.trod_struct Try.underlying49 h
  rw [cProcess] at hcl
  have hrr : ∀ m ∈ DataW.weightsEach Try.prog [3, 3, 46, 3, 2, 4, 2, 47] (ys.map (·.1)), m ≤ reachBytes := fun q hq => hr q (by rw [hys]; simp only [DataW.weights, Try.underlying49]; exact hq)
  have t0 : DataW.trod enc Try.prog W 0 (fun _ => true) true m 3 ((cs.drop 0).take (Try.prog.cellsOf 3)) = ys[0]? := hall 0 _ rfl
  rw [cint] at t0
  have t1 : DataW.trod enc Try.prog W 0 (fun _ => true) true m 3 ((cs.drop 1).take (Try.prog.cellsOf 3)) = ys[1]? := hall 1 _ rfl
  rw [cint] at t1
  have t2 : DataW.trod enc Try.prog W 0 (fun _ => true) true m 46 ((cs.drop 2).take (Try.prog.cellsOf 46)) = ys[2]? := hall 2 _ rfl
  rw [cRegs] at t2
  have t3 : DataW.trod enc Try.prog W 0 (fun _ => true) true m 3 ((cs.drop 10).take (Try.prog.cellsOf 3)) = ys[3]? := hall 3 _ rfl
  rw [cint] at t3
  have t4 : DataW.trod enc Try.prog W 0 (fun _ => true) true m 2 ((cs.drop 11).take (Try.prog.cellsOf 2)) = ys[4]? := hall 4 _ rfl
  rw [ci64] at t4
  have t5 : DataW.trod enc Try.prog W 0 (fun _ => true) true m 4 ((cs.drop 12).take (Try.prog.cellsOf 4)) = ys[5]? := hall 5 _ rfl
  rw [cbool] at t5
  have t6 : DataW.trod enc Try.prog W 0 (fun _ => true) true m 2 ((cs.drop 13).take (Try.prog.cellsOf 2)) = ys[6]? := hall 6 _ rfl
  rw [ci64] at t6
  have t7 : DataW.trod enc Try.prog W 0 (fun _ => true) true m 47 ((cs.drop 14).take (Try.prog.cellsOf 47)) = ys[7]? := hall 7 _ rfl
  rw [cLLane] at t7
  obtain ⟨c0, c1, c2, c3, c4, c5, c6, c7, c8, c9, c10, c11, c12, c13, c14, rfl⟩ := len15 cs hcl
  obtain ⟨z0, z1, z2, z3, z4, z5, z6, z7, rfl⟩ := len8 ys hyl
  obtain ⟨n0, e0, _, _⟩ := DataW.trod_int Try.underlying3 t0
  simp at e0
  subst e0
  obtain ⟨n1, e1, _, _⟩ := DataW.trod_int Try.underlying3 t1
  simp at e1
  subst e1
  obtain ⟨xs, k, _, _, _, hl, hel⟩ := DataW.trod_array Try.underlying46 t2
  rw [ci64] at hel
  simp only [List.drop_succ_cons, List.drop_zero, Nat.mul_one, List.take_succ_cons, List.take_zero] at hel
  obtain ⟨x0, x1, x2, x3, x4, x5, x6, x7, rfl⟩ := len8 xs hl
  obtain ⟨m0, q0, _, _⟩ := DataW.trod_int Try.underlying2 (hel 0 (by omega))
  obtain ⟨m1, q1, _, _⟩ := DataW.trod_int Try.underlying2 (hel 1 (by omega))
  obtain ⟨m2, q2, _, _⟩ := DataW.trod_int Try.underlying2 (hel 2 (by omega))
  obtain ⟨m3, q3, _, _⟩ := DataW.trod_int Try.underlying2 (hel 3 (by omega))
  obtain ⟨m4, q4, _, _⟩ := DataW.trod_int Try.underlying2 (hel 4 (by omega))
  obtain ⟨m5, q5, _, _⟩ := DataW.trod_int Try.underlying2 (hel 5 (by omega))
  obtain ⟨m6, q6, _, _⟩ := DataW.trod_int Try.underlying2 (hel 6 (by omega))
  obtain ⟨m7, q7, _, _⟩ := DataW.trod_int Try.underlying2 (hel 7 (by omega))
  simp at q0 q1 q2 q3 q4 q5 q6 q7
  subst q0 q1 q2 q3 q4 q5 q6 q7
  obtain ⟨n3, e3, _, _⟩ := DataW.trod_int Try.underlying3 t3
  simp at e3
  subst e3
  obtain ⟨n4, e4, _, _⟩ := DataW.trod_int Try.underlying2 t4
  simp at e4
  subst e4
  obtain ⟨n5, e5, _⟩ := DataW.trod_bool Try.underlying4 t5
  simp at e5
  subst e5
  obtain ⟨n6, e6, _, _⟩ := DataW.trod_int Try.underlying2 t6
  simp at e6
  subst e6
  obtain ⟨v7, l7, e7, d7⟩ := (raw_de lE (by decide) Try.underlying47 cLane bLane (by decide) raw_n) t7 (mem_each (j := 7) rfl rfl hrr)
  simp at e7
  subst e7
  exact ⟨⟨n0, n1, ⟨m0, m1, m2, m3, m4, m5, m6, m7⟩, n3, n4, n5, n6, l7⟩, _, rfl, d7⟩
set_option maxRecDepth 100000 in
theorem raw_s (n : Nat) (cs : List Value) (y : DataW H × List MemPlace) (h : DataW.trod enc Try.prog W 0 (fun _ => true) true n 30 cs = some y) (hr : Rch 30 y.1) (_ : cs.length = 3) : ∃ x, sE W cs x := by
  obtain ⟨ys, m, _, hys, hcl, hyl, hall⟩ := DataW.trod_struct Try.underlying30 h
  rw [cState] at hcl
  have hrr : ∀ m ∈ DataW.weightsEach Try.prog [2, 27, 28] (ys.map (·.1)), m ≤ reachBytes := fun q hq => hr q (by rw [hys]; simp only [DataW.weights, Try.underlying30]; exact hq)
  have t0 : DataW.trod enc Try.prog W 0 (fun _ => true) true m 2 ((cs.drop 0).take (Try.prog.cellsOf 2)) = ys[0]? := hall 0 _ rfl
  rw [ci64] at t0
  have t1 : DataW.trod enc Try.prog W 0 (fun _ => true) true m 27 ((cs.drop 1).take (Try.prog.cellsOf 27)) = ys[1]? := hall 1 _ rfl
  rw [cLPart] at t1
  have t2 : DataW.trod enc Try.prog W 0 (fun _ => true) true m 28 ((cs.drop 2).take (Try.prog.cellsOf 28)) = ys[2]? := hall 2 _ rfl
  rw [cLProcess] at t2
  obtain ⟨c0, c1, c2, rfl⟩ := len3 cs hcl
  obtain ⟨z0, z1, z2, rfl⟩ := len3 ys hyl
  obtain ⟨n0, e0, _, _⟩ := DataW.trod_int Try.underlying2 t0
  simp at e0
  subst e0
  obtain ⟨v1, l1, e1, d1⟩ := (raw_de pE (by decide) Try.underlying27 cPart bPart (by decide) raw_p) t1 (mem_each (j := 1) rfl rfl hrr)
  simp at e1
  subst e1
  obtain ⟨v2, l2, e2, d2⟩ := (raw_de rE (by decide) Try.underlying28 cProcess bProcess (by decide) raw_r) t2 (mem_each (j := 2) rfl rfl hrr)
  simp at e2
  subst e2
  exact ⟨⟨n0, l1, l2⟩, _, _, rfl, d1, d2⟩
set_option maxRecDepth 100000 in
theorem raw_c (n : Nat) (cs : List Value) (y : DataW H × List MemPlace) (h : DataW.trod enc Try.prog W 0 (fun _ => true) true n 59 cs = some y) (hr : Rch 59 y.1) (_ : cs.length = 2) : ∃ x, cE W cs x := by
  obtain ⟨ys, m, _, hys, hcl, hyl, hall⟩ := DataW.trod_struct Try.underlying59 h
  rw [cProc] at hcl
  have hrr : ∀ m ∈ DataW.weightsEach Try.prog [3, 57] (ys.map (·.1)), m ≤ reachBytes := fun q hq => hr q (by rw [hys]; simp only [DataW.weights, Try.underlying59]; exact hq)
  have t0 : DataW.trod enc Try.prog W 0 (fun _ => true) true m 3 ((cs.drop 0).take (Try.prog.cellsOf 3)) = ys[0]? := hall 0 _ rfl
  rw [cint] at t0
  have t1 : DataW.trod enc Try.prog W 0 (fun _ => true) true m 57 ((cs.drop 1).take (Try.prog.cellsOf 57)) = ys[1]? := hall 1 _ rfl
  rw [cLIns] at t1
  obtain ⟨c0, c1, rfl⟩ := len2 cs hcl
  obtain ⟨z0, z1, rfl⟩ := len2 ys hyl
  obtain ⟨n0, e0, _, _⟩ := DataW.trod_int Try.underlying3 t0
  simp at e0
  subst e0
  exact ⟨n0, _, rfl⟩
set_option maxRecDepth 100000 in
theorem raw_f (n : Nat) (cs : List Value) (y : DataW H × List MemPlace) (h : DataW.trod enc Try.prog W 0 (fun _ => true) true n 26 cs = some y) (hr : Rch 26 y.1) (_ : cs.length = 7) : ∃ x, fE W cs x := by
  obtain ⟨ys, m, _, hys, hcl, hyl, hall⟩ := DataW.trod_struct Try.underlying26 h
  rw [cConfig] at hcl
  have hrr : ∀ m ∈ DataW.weightsEach Try.prog [22, 23, 3, 3, 3, 3, 24] (ys.map (·.1)), m ≤ reachBytes := fun q hq => hr q (by rw [hys]; simp only [DataW.weights, Try.underlying26]; exact hq)
  have t0 : DataW.trod enc Try.prog W 0 (fun _ => true) true m 22 ((cs.drop 0).take (Try.prog.cellsOf 22)) = ys[0]? := hall 0 _ rfl
  rw [cLu64] at t0
  have t1 : DataW.trod enc Try.prog W 0 (fun _ => true) true m 23 ((cs.drop 1).take (Try.prog.cellsOf 23)) = ys[1]? := hall 1 _ rfl
  rw [cLint] at t1
  have t2 : DataW.trod enc Try.prog W 0 (fun _ => true) true m 3 ((cs.drop 2).take (Try.prog.cellsOf 3)) = ys[2]? := hall 2 _ rfl
  rw [cint] at t2
  have t3 : DataW.trod enc Try.prog W 0 (fun _ => true) true m 3 ((cs.drop 3).take (Try.prog.cellsOf 3)) = ys[3]? := hall 3 _ rfl
  rw [cint] at t3
  have t4 : DataW.trod enc Try.prog W 0 (fun _ => true) true m 3 ((cs.drop 4).take (Try.prog.cellsOf 3)) = ys[4]? := hall 4 _ rfl
  rw [cint] at t4
  have t5 : DataW.trod enc Try.prog W 0 (fun _ => true) true m 3 ((cs.drop 5).take (Try.prog.cellsOf 3)) = ys[5]? := hall 5 _ rfl
  rw [cint] at t5
  have t6 : DataW.trod enc Try.prog W 0 (fun _ => true) true m 24 ((cs.drop 6).take (Try.prog.cellsOf 24)) = ys[6]? := hall 6 _ rfl
  rw [cLProc] at t6
  obtain ⟨c0, c1, c2, c3, c4, c5, c6, rfl⟩ := len7 cs hcl
  obtain ⟨z0, z1, z2, z3, z4, z5, z6, rfl⟩ := len7 ys hyl
  obtain ⟨v0, l0, e0, d0⟩ := (raw_de uE (by decide) Try.underlying22 cu64 bu64 (by decide) raw_u) t0 (mem_each (j := 0) rfl rfl hrr)
  simp at e0
  subst e0
  obtain ⟨v6, l6, e6, d6⟩ := (raw_de cE (by decide) Try.underlying24 cProc bProc (by decide) raw_c) t6 (mem_each (j := 6) rfl rfl hrr)
  simp at e6
  subst e6
  exact ⟨⟨l0, l6⟩, _, _, _, _, _, _, _, rfl, d0, d6⟩
theorem view_cfg {base : Nat} {v : Value} {d : DataW H} {p : List MemPlace} (hv : Value.okWide Try.prog W .any base 26 v) (h : DataW.Trod enc Try.prog W 0 (fun _ => true) true 26 v d p) (hr : Rch 26 d) : ∃ cs c, v = .agg cs.toArray ∧ fE W cs c := by
  obtain ⟨⟨L⟩, rfl, hs⟩ := okWide_struct Try.underlying26 hv
  obtain ⟨fuel, hf⟩ := h
  have hf : DataW.trod enc Try.prog W 0 (fun _ => true) true fuel 26 L = some (d, p) := hf
  have hl : L.length = 7 := by
    obtain ⟨ys, m, _, hys, hcl, hyl, hall⟩ := DataW.trod_struct Try.underlying26 hf
    rw [hcl, cConfig]
  obtain ⟨c, hc⟩ := raw_f fuel L _ hf hr hl
  exact ⟨L, c, rfl, hc⟩
theorem view_state {base : Nat} {v : Value} {d : DataW H} {p : List MemPlace} (hv : Value.okWide Try.prog W .any base 30 v) (h : DataW.Trod enc Try.prog W 0 (fun _ => true) true 30 v d p) (hr : Rch 30 d) : ∃ cs c, v = .agg cs.toArray ∧ sE W cs c := by
  obtain ⟨⟨L⟩, rfl, hs⟩ := okWide_struct Try.underlying30 hv
  obtain ⟨fuel, hf⟩ := h
  have hf : DataW.trod enc Try.prog W 0 (fun _ => true) true fuel 30 L = some (d, p) := hf
  have hl : L.length = 3 := by
    obtain ⟨ys, m, _, hys, hcl, hyl, hall⟩ := DataW.trod_struct Try.underlying30 hf
    rw [hcl, cState]
  obtain ⟨c, hc⟩ := raw_s fuel L _ hf hr hl
  exact ⟨L, c, rfl, hc⟩
end
end Go.Proofs.Ytjbmljheepomnaa
