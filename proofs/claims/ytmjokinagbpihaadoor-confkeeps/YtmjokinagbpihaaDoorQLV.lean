/- What came in, as the walks ask it: bytes, programs, configs. -/
import Derived.Test.YtmjokinagbpihaaDoorQLBase
namespace Go.Proofs.YtmjokinagbpihaaDoor
open Go.ChangeShapes Go.WideShapes Go.ChangeAt Go.RowKit

theorem addr_add' (b off j : Nat) : (⟨b, off, none⟩ : Addr).add j = ⟨b, off + j, none⟩ := by
  unfold Addr.add
  split
  · rename_i h; subst h; rfl
  · rfl
theorem flat_at {α : Type} [Inhabited α] (f : α → List Value) (s : Nat) (hfl : ∀ x, (f x).length = s) : ∀ (l : List α) (i r : Nat), i < l.length → r < s → (l.flatMap f)[i * s + r]? = (f (l.getD i default))[r]?
  | x :: t, 0, r, _, hr => by
    rw [List.flatMap_cons, List.getElem?_append_left (by rw [hfl]; omega)]
    simp
  | x :: t, i + 1, r, hi, hr => by
    rw [List.flatMap_cons, List.getElem?_append_right (by rw [hfl, Nat.succ_mul]; omega), hfl, show (i + 1) * s + r - s = i * s + r by rw [Nat.succ_mul]; omega, flat_at f s hfl t i r (by simpa using hi) hr]
    simp
theorem flat_len' {α : Type} (f : α → List Value) (s : Nat) (hfl : ∀ x, (f x).length = s) : ∀ (l : List α), (l.flatMap f).length = l.length * s
  | [] => by simp
  | x :: t => by rw [List.flatMap_cons, List.length_append, hfl, flat_len' f s hfl t, List.length_cons, Nat.succ_mul]; omega

theorem lab_flat : ∀ (l : List Int), (∀ z ∈ l, (Lit.int .u64 z).wf = true) → labC (l.map Int.toNat) = l.flatMap fun z : Int => [Value.int .u64 z]
  | [], _ => rfl
  | z :: r, h => by
    have h1 := bounds_u64 (h z List.mem_cons_self)
    have h2 := lab_flat r (fun x hx => h x (List.mem_cons_of_mem _ hx))
    simp only [labC, List.map_cons, List.flatMap_cons, List.singleton_append, List.cons.injEq, Value.int.injEq, true_and] at h2 ⊢
    exact ⟨by omega, h2⟩
theorem iC_flat : ∀ (l : List Int), iC l = l.flatMap fun z : Int => [Value.int .i64 z]
  | [] => rfl
  | z :: r => by
    have h2 := iC_flat r
    simp only [iC, List.map_cons, List.flatMap_cons, List.singleton_append, List.cons.injEq, true_and] at h2 ⊢
    exact h2
theorem byte_flat : ∀ (l : List Int), (∀ z ∈ l, (Lit.int .u8 z).wf = true) → bCells (l.map Int.toNat) = l.flatMap fun z : Int => [Value.int .u8 z]
  | [], _ => rfl
  | z :: r, h => by
    have h1 := bounds_u8 (h z List.mem_cons_self)
    have h2 := byte_flat r (fun x hx => h x (List.mem_cons_of_mem _ hx))
    simp only [bCells, List.map_cons, List.flatMap_cons, List.singleton_append, List.cons.injEq, Value.int.injEq, true_and] at h2 ⊢
    exact ⟨by omega, h2⟩

section
variable {H : Type} {enc : TypeId × Value → H} {W : World}

theorem raw_slice {α : Type} [Inhabited α] {t e : TypeId} {s fuel : Nat} {cs : List Value} {x : DataW H × List MemPlace} (f : α → List Value) (V : α → Prop) (hs : 0 < s) (hfl : ∀ x, (f x).length = s)
    (ht : Tryd.prog.underlying t = some (.slice e)) (hc : Tryd.prog.cellsOf e = s)
    (each : ∀ n cs y, DataW.trod enc Tryd.prog W 0 (fun _ => true) true n e cs = some y → ∃ x, cs = f x ∧ V x)
    (h : DataW.trod enc Tryd.prog W 0 (fun _ => true) true fuel t cs = some x) :
    ∃ (a : Option Addr) (l : List α) (cap : Nat), cs = [.slice a l.length cap] ∧ l.length ≤ cap ∧ cap ≤ maxLen ∧ (a = none → cap = 0) ∧ Rd W a (l.flatMap f) ∧ ∀ x ∈ l, V x := by
  rcases DataW.trod_slice ht h with ⟨hcs, hx⟩ | ⟨a', len, cap, elems, rest, n, _, hcs, hx, hb, hl, hm, hlen, hel, _, _⟩
  · exact ⟨none, [], 0, hcs, Nat.le_refl _, Nat.zero_le _, fun _ => rfl, fun j u hj => by simp at hj, fun x hx => by simp at hx⟩
  · rw [hc] at hel
    have one : ∀ i, i < len → ∃ x : α, (∀ r, r < s → W.cell? ((a'.add (i * s)).add r) = (f x)[r]?) ∧ V x := by
      intro i hi
      have h1 := hel i hi
      obtain ⟨y, hy⟩ : ∃ y, elems[i]? = some y := ⟨_, List.getElem?_eq_getElem (by omega)⟩
      rw [hy, Option.bind_eq_some_iff] at h1
      obtain ⟨ds, hd, hd'⟩ := h1
      obtain ⟨z, rfl, hV⟩ := each _ _ _ hd'
      have hcell := (World.cells?_some hd).2.2
      exact ⟨z, fun r hr => hcell r hr, hV⟩
    have all : ∀ k, k ≤ len → ∃ l : List α, l.length = k ∧ (∀ i, i < k → ∀ r, r < s → W.cell? ((a'.add (i * s)).add r) = (f (l.getD i default))[r]?) ∧ ∀ x ∈ l, V x := by
      intro k
      induction k with
      | zero => intro _; exact ⟨[], rfl, fun i hi => absurd hi (Nat.not_lt_zero i), fun x hx => by simp at hx⟩
      | succ k ih =>
        intro hk
        obtain ⟨l, hl', hall, hfit⟩ := ih (by omega)
        obtain ⟨z, hz, hfz⟩ := one k (by omega)
        refine ⟨l ++ [z], by simp [hl'], fun i hi r hr => ?_, fun y hy => ?_⟩
        · by_cases hik : i < k
          · have e : (l ++ [z]).getD i default = l.getD i default := by
              rw [List.getD_eq_getElem?_getD, List.getD_eq_getElem?_getD, List.getElem?_append_left (by omega)]
            rw [e]
            exact hall i hik r hr
          · obtain rfl : i = k := by omega
            have e : (l ++ [z]).getD i default = z := by
              rw [List.getD_eq_getElem?_getD, List.getElem?_append_right (by omega), hl']
              simp
            rw [e]
            exact hz r hr
        · rcases List.mem_append.1 hy with h | h
          · exact hfit y h
          · simp at h; rw [h]; exact hfz
    obtain ⟨l, rfl, hall, hV⟩ := all len (Nat.le_refl _)
    refine ⟨some a', l, cap, hcs, hl, hm, (fun h => by cases h), fun j u hj => ?_, hV⟩
    have hj' : j < l.length * s := by
      have := (List.getElem?_eq_some_iff.1 hj).1
      rwa [flat_len' f s hfl] at this
    have hi : j / s < l.length := Nat.div_lt_of_lt_mul (by rw [Nat.mul_comm]; exact hj')
    have hr : j % s < s := Nat.mod_lt _ hs
    have hjj : j / s * s + j % s = j := by rw [Nat.mul_comm]; exact Nat.div_add_mod j s
    have h2 := hall (j / s) hi (j % s) hr
    rw [← flat_at f s hfl l _ _ hi hr, hjj, hj] at h2
    obtain ⟨b, off, spot⟩ := a'
    have hspot : spot = none := by
      have h3 := hall 0 (Nat.lt_of_le_of_lt (Nat.zero_le _) hi) 0 hs
      rw [List.getElem?_eq_getElem (by rw [hfl]; exact hs)] at h3
      simpa [Addr.add] using World.cell?_spot h3
    subst hspot
    rw [addr_add', addr_add', Nat.add_assoc, hjj] at h2
    exact ⟨b, off, rfl, h2⟩

theorem raw_int {t : TypeId} {k : IntKind} (ht : Tryd.prog.underlying t = some (.int k)) (n : Nat) (cs : List Value) (y : DataW H × List MemPlace) (h : DataW.trod enc Tryd.prog W 0 (fun _ => true) true n t cs = some y) :
    ∃ z : Int, cs = [.int k z] ∧ (Lit.int k z).wf = true := by
  obtain ⟨z, e, _, w⟩ := DataW.trod_int ht h
  exact ⟨z, e, w⟩

theorem cIns : Tryd.prog.cellsOf 71 = 5 := by kernel_rfl
theorem cInt : Tryd.prog.cellsOf 3 = 1 := by kernel_rfl
theorem cI64 : Tryd.prog.cellsOf 2 = 1 := by kernel_rfl
theorem cU8 : Tryd.prog.cellsOf 5 = 1 := by kernel_rfl
theorem cU64 : Tryd.prog.cellsOf 65 = 1 := by kernel_rfl
theorem cProc : Tryd.prog.cellsOf 42 = 2 := by kernel_rfl
theorem cConf : Tryd.prog.cellsOf 27 = 7 := by kernel_rfl
theorem cLIns : Tryd.prog.cellsOf 39 = 1 := by kernel_rfl
theorem cLU64 : Tryd.prog.cellsOf 23 = 1 := by kernel_rfl
theorem cLint : Tryd.prog.cellsOf 24 = 1 := by kernel_rfl
theorem cLProc : Tryd.prog.cellsOf 25 = 1 := by kernel_rfl
def In64 (z : Int) : Prop := -9223372036854775808 ≤ z ∧ z ≤ 9223372036854775807
def FitI (x : Ins) : Prop := In64 x.op ∧ In64 x.a ∧ In64 x.b ∧ In64 x.c ∧ In64 x.imm

set_option maxRecDepth 100000 in
theorem raw_ins (n : Nat) (cs : List Value) (y : DataW H × List MemPlace) (h : DataW.trod enc Tryd.prog W 0 (fun _ => true) true n 71 cs = some y) :
    ∃ x : Ins, cs = insCells x ∧ FitI x := by
  obtain ⟨ys, m, _, _, hcl, hyl, hall⟩ := DataW.trod_struct Tryd.underlying71 h
  rw [cIns] at hcl
  have t0 := hall 0 _ rfl
  have t1 := hall 1 _ rfl
  have t2 := hall 2 _ rfl
  have t3 := hall 3 _ rfl
  have t4 := hall 4 _ rfl
  match cs, hcl, ys, hyl with
  | [c0, c1, c2, c3, c4], _, [z0, z1, z2, z3, z4], _ =>
    obtain ⟨n0, e0, _, w0⟩ := DataW.trod_int Tryd.underlying3 t0
    obtain ⟨n1, e1, _, w1⟩ := DataW.trod_int Tryd.underlying3 t1
    obtain ⟨n2, e2, _, w2⟩ := DataW.trod_int Tryd.underlying3 t2
    obtain ⟨n3, e3, _, w3⟩ := DataW.trod_int Tryd.underlying3 t3
    obtain ⟨n4, e4, _, w4⟩ := DataW.trod_int Tryd.underlying2 t4
    simp [cInt, cI64] at e0 e1 e2 e3 e4
    subst e0 e1 e2 e3 e4
    exact ⟨⟨n0, n1, n2, n3, n4⟩, rfl, bounds_i64 w0, bounds_i64 w1, bounds_i64 w2, bounds_i64 w3, bounds_i64 w4⟩

theorem raw_prog (n : Nat) (cs : List Value) (y : DataW H × List MemPlace) (h : DataW.trod enc Tryd.prog W 0 (fun _ => true) true n 39 cs = some y) :
    ∃ (a : Option Addr) (l : List Ins) (cap : Nat), cs = [.slice a l.length cap] ∧ l.length ≤ cap ∧ cap ≤ maxLen ∧ (a = none → cap = 0) ∧ Rd W a (pCells l) ∧ ∀ x ∈ l, FitI x :=
  raw_slice (s := 5) insCells FitI (by decide) (fun _ => rfl) Tryd.underlying39 cIns raw_ins h

def PrV (W : World) (m : PrM) : Prop := In64 m.p.part ∧ m.p.code.length ≤ m.c ∧ (m.a = none → m.c = 0) ∧ Rd W m.a (pCells m.p.code) ∧ (∀ x ∈ m.p.code, FitI x) ∧ m.p.code.length ≤ 9223372036854775807
set_option maxRecDepth 100000 in
theorem raw_proc (n : Nat) (cs : List Value) (y : DataW H × List MemPlace) (h : DataW.trod enc Tryd.prog W 0 (fun _ => true) true n 42 cs = some y) :
    ∃ m : PrM, cs = prC m ∧ PrV W m := by
  obtain ⟨ys, m, _, _, hcl, hyl, hall⟩ := DataW.trod_struct Tryd.underlying42 h
  rw [cProc] at hcl
  have t0 := hall 0 _ rfl
  have t1 : DataW.trod enc Tryd.prog W 0 (fun _ => true) true m 39 ((cs.drop 1).take (Tryd.prog.cellsOf 39)) = ys[1]? := hall 1 _ rfl
  rw [cLIns] at t1
  match cs, hcl, ys, hyl with
  | [c0, c1], _, [z0, z1], _ =>
    obtain ⟨n0, e0, _, w0⟩ := DataW.trod_int Tryd.underlying3 t0
    obtain ⟨a, l, cap, e1, hl, hmx, hn, hr, hf⟩ := raw_prog _ _ _ t1
    simp [cInt] at e0 e1
    subst e0 e1
    exact ⟨⟨⟨n0, l⟩, a, cap⟩, rfl, bounds_i64 w0, hl, hn, hr, hf, by unfold maxLen at hmx; simp only; omega⟩

/-- What is known of a config that came in. -/
structure CfI (c : Cfg) : Prop where
  lab : ∀ x ∈ c.labels, x < 18446744073709551616
  tab : ∀ x ∈ c.table, In64 x
  nums : In64 c.fuel ∧ In64 c.lane ∧ In64 c.locks ∧ In64 c.log
  prs : ∀ p ∈ c.procs, In64 p.part ∧ ∀ x ∈ p.code, FitI x
  cod : ∀ p ∈ c.procs, p.code.length ≤ 9223372036854775807
  len : c.labels.length ≤ 9223372036854775807 ∧ c.table.length ≤ 9223372036854775807 ∧ c.procs.length ≤ 9223372036854775807

set_option maxRecDepth 100000 in
/-- A config that came in. -/
theorem view_cfg {base : Nat} {v : Value} {d : DataW H} {p : List MemPlace} (hv : Value.okWide Tryd.prog W .any base 27 v)
    (h : DataW.Trod enc Tryd.prog W 0 (fun _ => true) true 27 v d p) : ∃ (c : Cfg) (g : Loc), v = cfV c g ∧ CfR W c g ∧ CfI c := by
  obtain ⟨⟨L⟩, rfl, hs⟩ := okWide_struct Tryd.underlying27 hv
  obtain ⟨fuel, hf⟩ := h
  have hf : DataW.trod enc Tryd.prog W 0 (fun _ => true) true fuel 27 L = some (d, p) := hf
  obtain ⟨ys, m, _, _, hcl, hyl, hall⟩ := DataW.trod_struct Tryd.underlying27 hf
  rw [cConf] at hcl
  have t0 : DataW.trod enc Tryd.prog W 0 (fun _ => true) true m 23 ((L.drop 0).take (Tryd.prog.cellsOf 23)) = ys[0]? := hall 0 _ rfl
  have t1 : DataW.trod enc Tryd.prog W 0 (fun _ => true) true m 24 ((L.drop 1).take (Tryd.prog.cellsOf 24)) = ys[1]? := hall 1 _ rfl
  have t2 := hall 2 _ rfl
  have t3 := hall 3 _ rfl
  have t4 := hall 4 _ rfl
  have t5 := hall 5 _ rfl
  have t6 : DataW.trod enc Tryd.prog W 0 (fun _ => true) true m 25 ((L.drop 6).take (Tryd.prog.cellsOf 25)) = ys[6]? := hall 6 _ rfl
  rw [cLU64] at t0
  rw [cLint] at t1
  rw [cLProc] at t6
  match L, hcl, ys, hyl with
  | [c0, c1, c2, c3, c4, c5, c6], _, [z0, z1, z2, z3, z4, z5, z6], _ =>
    obtain ⟨a0, l0, k0, e0, n0, m0, _, hr0, hf0⟩ := raw_slice (s := 1) (fun z : Int => [Value.int .u64 z]) (fun z => (Lit.int .u64 z).wf = true) (by decide) (fun _ => rfl) Tryd.underlying23 cU64 (raw_int Tryd.underlying65) t0
    obtain ⟨a1, l1, k1, e1, n1, m1, _, hr1, hf1⟩ := raw_slice (s := 1) (fun z : Int => [Value.int .i64 z]) (fun z => (Lit.int .i64 z).wf = true) (by decide) (fun _ => rfl) Tryd.underlying24 cInt (raw_int Tryd.underlying3) t1
    obtain ⟨n2, e2, _, w2⟩ := DataW.trod_int Tryd.underlying3 t2
    obtain ⟨n3, e3, _, w3⟩ := DataW.trod_int Tryd.underlying3 t3
    obtain ⟨n4, e4, _, w4⟩ := DataW.trod_int Tryd.underlying3 t4
    obtain ⟨n5, e5, _, w5⟩ := DataW.trod_int Tryd.underlying3 t5
    obtain ⟨a6, l6, k6, e6, n6, m6, _, hr6, hf6⟩ := raw_slice (s := 2) prC (PrV W) (by decide) (fun _ => rfl) Tryd.underlying25 cProc raw_proc t6
    simp [cInt] at e0 e1 e2 e3 e4 e5 e6
    subst e0 e1 e2 e3 e4 e5 e6
    refine ⟨⟨l0.map Int.toNat, l1, n2, n3, n4, n5, psOf l6⟩, ⟨a0, k0, a1, k1, a6, k6, l6⟩, ?_, ⟨?_, ?_, hr6, fun m hm => (hf6 m hm).2.2.2.1, rfl⟩, ⟨?_, fun x hx => bounds_i64 (hf1 x hx), ⟨bounds_i64 w2, bounds_i64 w3, bounds_i64 w4, bounds_i64 w5⟩, ?_, ?_, ?_⟩⟩
    · simp [cfV, cfA, psOf]
    · have e := lab_flat l0 hf0
      show Rd W a0 (labC (l0.map Int.toNat))
      rw [e]; exact hr0
    · have e := iC_flat l1
      show Rd W a1 (iC l1)
      rw [e]; exact hr1
    · intro x hx
      obtain ⟨z, hz, rfl⟩ := List.mem_map.1 hx
      have := bounds_u64 (hf0 z hz)
      omega
    · intro q hq
      obtain ⟨m, hm, rfl⟩ := List.mem_map.1 hq
      exact ⟨(hf6 m hm).1, (hf6 m hm).2.2.2.2.1⟩
    · intro q hq
      obtain ⟨m, hm, rfl⟩ := List.mem_map.1 hq
      exact (hf6 m hm).2.2.2.2.2
    · unfold maxLen at m0 m1 m6
      simp only [List.length_map, psOf_len]
      omega

/-- Bytes that came in. -/
theorem view_bytes {a : Option Addr} {len cap : Nat} {d : DataW H} {p : List MemPlace} (h : DataW.Trod enc Tryd.prog W 0 (fun _ => true) true 31 (.slice a len cap) d p) :
    ∃ bs : List Nat, bs.length = len ∧ len ≤ cap ∧ cap ≤ maxLen ∧ (a = none → cap = 0) ∧ Rd W a (bCells bs) ∧ Byte bs := by
  obtain ⟨fuel, hf⟩ := h
  have hf : DataW.trod enc Tryd.prog W 0 (fun _ => true) true fuel 31 [.slice a len cap] = some (d, p) := hf
  obtain ⟨a0, l0, k0, e0, h1, h2, h3, hr0, hf0⟩ := raw_slice (s := 1) (fun z : Int => [Value.int .u8 z]) (fun z => (Lit.int .u8 z).wf = true) (by decide) (fun _ => rfl) Tryd.underlying31 cU8 (raw_int Tryd.underlying5) hf
  simp at e0
  obtain ⟨rfl, rfl, rfl⟩ := e0
  refine ⟨l0.map Int.toNat, by simp, h1, h2, h3, ?_, byte_of_mem fun y hy => ?_⟩
  · have e := byte_flat l0 hf0
    rw [e]; exact hr0
  · obtain ⟨z, hz, rfl⟩ := List.mem_map.1 hy
    have := bounds_u8 (hf0 z hz)
    omega
end
end Go.Proofs.YtmjokinagbpihaaDoor
