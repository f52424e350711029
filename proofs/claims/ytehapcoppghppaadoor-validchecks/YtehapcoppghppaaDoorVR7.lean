/- Programs that are copied; ValidChecks. -/
import Derived.Test.YtehapcoppghppaaDoorVR6
import Derived.Test.YtehapcoppghppaaDoorVW7
import Derived.Deep.RegionWith
import Derived.Laws.CopyOwn
namespace Go.Proofs.YtehapcoppghppaaDoor
open Go.RowKit

theorem infoN : (Tryd.prog.info? 25).map (fun i => (i.zero, i.size, i.bytes)) = some (some (.agg #[.int .i64 0, .int .i64 0, .int .i64 0, .int .i64 0, .int .i64 0]), 5, 40) := by kernel_rfl

/-- 'copy' of instructions. -/
theorem run_copy_ins (w : World) (ty : TypeId) (g dLen dCap : Nat) (a : Addr) (sLen sCap : Nat) (cur : Array Value) (t : TypeId) (cs : List Value)
    (hg : w.heap[g]? = some (.cells cur t (0, 0))) (hn : cs.length = Nat.min sLen dLen * 5) (hsrc : ∀ j v, cs[j]? = some v → w.cell? (a.add j) = some v) (hfit : cs.length ≤ cur.size) (h1 : ∀ v ∈ cs, v.oneCell' = true) :
    (Builtin.copy_ #[23, 23] ty #[.slice (some ⟨g, 0, none⟩) dLen dCap, .slice (some a) sLen sCap]).run Tryd.prog w =
      .ok (goInt (Nat.min sLen dLen)) (w.setRow g (cs ++ cur.toList.drop cs.length).toArray) := by
  obtain ⟨i, hq, _, hi, _⟩ := info_parts infoN
  have hl := run_loadCells_list (P := Tryd.prog) w a cs hsrc
  have hst := run_storeCells_at Tryd.prog g 0 t cs 0 cur w hg (by simpa using hfit) h1
  simp [Builtin.copy_, run_underlying Tryd.underlying23, Builtin.lenOf, Builtin.firstCells, sizeOf, typeInfo, hq, hi, ← hn, hl, hst]

theorem run_copy_ins_none (w : World) (ty : TypeId) (d a : Option Addr) (dLen dCap sCap : Nat) :
    (Builtin.copy_ #[23, 23] ty #[.slice d dLen dCap, .slice a 0 sCap]).run Tryd.prog w = .ok (goInt 0) w := by
  obtain ⟨i, hq, _, hi, _⟩ := info_parts infoN
  have hl : ∀ (x : Addr), (loadCells x 0).run Tryd.prog w = .ok #[] w := fun x => by simpa using run_loadCells_list (P := Tryd.prog) w x [] (by simp)
  cases d <;> cases a <;> simp [Builtin.copy_, run_underlying Tryd.underlying23, Builtin.lenOf, Builtin.firstCells, sizeOf, typeInfo, hq, storeCells, hl]

theorem addr_add8 (b off j : Nat) : (⟨b, off, none⟩ : Addr).add j = ⟨b, off + j, none⟩ := by
  unfold Addr.add
  split
  · rename_i h; subst h; rfl
  · rfl

theorem insAt_cells {w : World} {b o : Nat} {x : Ins} (h : InsAt w b o x) (r : Nat) (hr : r < 5) : w.cell? ⟨b, o + r, none⟩ = (insCells x)[r]? := by
  have : r = 0 ∨ r = 1 ∨ r = 2 ∨ r = 3 ∨ r = 4 := by omega
  rcases this with rfl | rfl | rfl | rfl | rfl
  · exact h.c0
  · exact h.c1
  · exact h.c2
  · exact h.c3
  · exact h.c4

theorem prg_cells {w : World} {a : Option Addr} {l : List Ins} (h : Prg w a l) : ∀ ad, a = some ad → ∀ j u, (pCells l)[j]? = some u → w.cell? (ad.add j) = some u := by
  intro ad ha j u hu
  have hj : j < (pCells l).length := by
    rcases Nat.lt_or_ge j (pCells l).length with h | h
    · exact h
    · rw [List.getElem?_eq_none h] at hu; cases hu
  rw [pCells_len] at hj
  obtain ⟨b, off, e, hc⟩ := h (j / 5) (by omega)
  rw [ha] at e
  obtain rfl := Option.some.inj e
  have h1 := insAt_cells hc (j % 5) (by omega)
  have h2 := pCells_at l (j / 5) (j % 5) (by omega) (by omega)
  rw [show j / 5 * 5 + j % 5 = j by omega] at h2
  rw [addr_add8, show off + j = off + j / 5 * 5 + j % 5 by omega, h1, ← h2, hu]

theorem pCells_one (l : List Ins) : ∀ u ∈ pCells l, u.oneCell' = true := by
  intro u hu
  simp only [pCells, List.mem_flatMap] at hu
  obtain ⟨x, _, hx⟩ := hu
  simp only [insCells, List.mem_cons, List.not_mem_nil, or_false] at hx
  rcases hx with rfl | rfl | rfl | rfl | rfl <;> rfl

def set5 (xs : List Value) (k : Nat) (x : Ins) : List Value := ((((xs.set k (.int .i64 x.op)).set (k + 1) (.int .i64 x.a)).set (k + 2) (.int .i64 x.b)).set (k + 3) (.int .i64 x.c)).set (k + 4) (.int .i64 x.imm)

theorem set5_at (xs : List Value) (k : Nat) (x : Ins) (hk : k + 5 ≤ xs.length) (r : Nat) (hr : r < 5) : (set5 xs k x)[k + r]? = (insCells x)[r]? := by
  have : r = 0 ∨ r = 1 ∨ r = 2 ∨ r = 3 ∨ r = 4 := by omega
  unfold set5
  rcases this with rfl | rfl | rfl | rfl | rfl <;> simp only [List.getElem?_set, List.length_set] <;> simp [insCells] <;> omega
theorem set5_ne (xs : List Value) (k : Nat) (x : Ins) (t : Nat) (ht : t < k ∨ k + 5 ≤ t) : (set5 xs k x)[t]? = xs[t]? := by
  unfold set5
  rw [List.getElem?_set_ne (by omega), List.getElem?_set_ne (by omega), List.getElem?_set_ne (by omega), List.getElem?_set_ne (by omega), List.getElem?_set_ne (by omega)]
theorem set5_len (xs : List Value) (k : Nat) (x : Ins) : (set5 xs k x).length = xs.length := by simp [set5]

theorem set5_cells (l : List Ins) (k : Nat) (x : Ins) (hk : k < l.length) : set5 (pCells l) (k * 5) x = pCells (l.set k x) := by
  apply List.ext_getElem?
  intro t
  by_cases ht : t < l.length * 5
  · have h2 := pCells_at (l.set k x) (t / 5) (t % 5) (by rw [List.length_set]; omega) (by omega)
    rw [show t / 5 * 5 + t % 5 = t by omega] at h2
    rw [h2]
    by_cases e : t / 5 = k
    · have h1 := set5_at (pCells l) (k * 5) x (by rw [pCells_len]; omega) (t % 5) (by omega)
      rw [show k * 5 + t % 5 = t by omega] at h1
      rw [h1, e, List.getD_eq_getElem?_getD, List.getElem?_set_self hk, Option.getD_some]
    · rw [set5_ne _ _ _ _ (by omega), List.getD_eq_getElem?_getD, List.getElem?_set_ne (Ne.symm e), ← List.getD_eq_getElem?_getD]
      have h1 := pCells_at l (t / 5) (t % 5) (by omega) (by omega)
      rw [show t / 5 * 5 + t % 5 = t by omega] at h1
      exact h1
  · rw [List.getElem?_eq_none (by rw [set5_len, pCells_len]; omega), List.getElem?_eq_none (by rw [pCells_len, List.length_set]; omega)]

def put5 (w : World) (g k : Nat) (x : Ins) : World := ((((w.setCell ⟨g, k, none⟩ (.int .i64 x.op)).setCell ⟨g, k + 1, none⟩ (.int .i64 x.a)).setCell ⟨g, k + 2, none⟩ (.int .i64 x.b)).setCell ⟨g, k + 3, none⟩ (.int .i64 x.c)).setCell ⟨g, k + 4, none⟩ (.int .i64 x.imm)

theorem stored5 {w : World} {B g n cap : Nat} {e : TypeId} {s : Nat} {xs : List Value} (h : w.ownsRow B e s (.slice (some ⟨g, 0, none⟩) n cap) n xs) (k : Nat) (x : Ins) :
    (put5 w g k x).ownsRow B e s (.slice (some ⟨g, 0, none⟩) n cap) n (set5 xs k x) ∧ w.grownBy (put5 w g k x) (some g) := by
  have s1 := h.stored k (.int .i64 x.op)
  have s2 := s1.1.stored (k + 1) (.int .i64 x.a)
  have s3 := s2.1.stored (k + 2) (.int .i64 x.b)
  have s4 := s3.1.stored (k + 3) (.int .i64 x.c)
  have s5 := s4.1.stored (k + 4) (.int .i64 x.imm)
  refine ⟨s5.1, ?_⟩
  have tr : ∀ {a b c : World}, a.grownBy b (some g) → b.grownBy c (some g) → a.grownBy c (some g) := fun {a b c} p q =>
    ⟨q.os.trans p.os, q.tape.trans p.tape, q.output.trans p.output, Nat.le_trans p.size q.size, fun i hi hne => by rw [q.block i (Nat.lt_of_lt_of_le hi p.size) hne, p.block i hi hne]⟩
  exact tr (tr (tr (tr s1.2 s2.2) s3.2) s4.2) s5.2


theorem pCells_app (l m : List Ins) : pCells l ++ pCells m = pCells (l ++ m) := by simp [pCells]

def insZ : Ins := ⟨0, 0, 0, 0, 0⟩
theorem made5 (n : Nat) : (madeCells (Value.agg #[.int .i64 0, .int .i64 0, .int .i64 0, .int .i64 0, .int .i64 0]).cells (n * 5)).toList = pCells (List.replicate n insZ) := by
  apply List.ext_getElem?
  intro t
  by_cases ht : t < n * 5
  · have h2 := pCells_at (List.replicate n insZ) (t / 5) (t % 5) (by rw [List.length_replicate]; omega) (by omega)
    rw [show t / 5 * 5 + t % 5 = t by omega] at h2
    rw [h2, List.getD_eq_getElem?_getD, List.getElem?_replicate, if_pos (by omega), Option.getD_some]
    have h3 : (insCells insZ)[t % 5]? = some (.int .i64 0) := by
      have : t % 5 = 0 ∨ t % 5 = 1 ∨ t % 5 = 2 ∨ t % 5 = 3 ∨ t % 5 = 4 := by omega
      rcases this with h | h | h | h | h <;> rw [h] <;> rfl
    rw [h3]
    have h4 : t % 5 < 5 := Nat.mod_lt _ (by decide)
    have h5 : ∀ r, r < 5 → [Value.int .i64 0, .int .i64 0, .int .i64 0, .int .i64 0, .int .i64 0][r]?.getD default = .int .i64 0 := by
      intro r hr
      have : r = 0 ∨ r = 1 ∨ r = 2 ∨ r = 3 ∨ r = 4 := by omega
      rcases this with rfl | rfl | rfl | rfl | rfl <;> rfl
    simp [madeCells, Value.cells, ht]
    exact h5 _ h4
  · rw [List.getElem?_eq_none (by simp [size_madeCells]; omega), List.getElem?_eq_none (by rw [pCells_len, List.length_replicate]; omega)]

theorem heap_of_full5 {w : World} {B g n : Nat} {Z : List Value} (h : w.ownsRow B 25 5 (.slice (some ⟨g, 0, none⟩) n n) n Z) : w.heap[g]? = some (.cells Z.toArray 25 (0, 0)) ∧ B ≤ g := by
  rcases h.2 with ⟨h1, _⟩ | ⟨g', cap', cur, h1, h2, h3, _, _, h6, h7⟩
  · cases h1
  · simp only [Value.slice.injEq, Option.some.injEq, Addr.mk.injEq, and_true, true_and] at h1
    obtain ⟨rfl, rfl⟩ := h1
    rw [← h7, List.take_of_length_le (by simp; omega)]
    exact ⟨h3, h2⟩

/-- A row of the call's own into which a program was copied. -/
theorem copy_prog {w w1 : World} {a : Option Addr} {cap g n : Nat} {m : List Ins} (hP : Prg w1 a m) (hn : n = m.length + 2) (hm : n ≤ maxLen)
    (ho1 : w1.ownsRow w.heap.size 25 5 (.slice (some ⟨g, 0, none⟩) n n) n (pCells (List.replicate n insZ))) (hb1 : Below w.heap.size w w1) :
    ∃ w2, (∀ ty, (Builtin.copy_ #[23, 23] ty #[.slice (some ⟨g, 0, none⟩) n n, .slice a m.length cap]).run Tryd.prog w1 = .ok (goInt m.length) w2) ∧ w2.ownsRow w.heap.size 25 5 (.slice (some ⟨g, 0, none⟩) n n) n (pCells (m ++ [insZ, insZ])) ∧ Below w.heap.size w w2 := by
  obtain ⟨hZ, hB⟩ := heap_of_full5 ho1
  have e0 : m ++ [insZ, insZ] = m ++ (List.replicate n insZ).drop m.length := by
    rw [List.drop_replicate, hn, show m.length + 2 - m.length = 2 by omega]
    rfl
  by_cases h0 : m.length = 0
  · refine ⟨w1, fun ty => by rw [h0]; exact run_copy_ins_none w1 ty _ _ _ _ _, ?_, hb1⟩
    have hl : m = [] := List.eq_nil_of_length_eq_zero h0
    rw [hl] at hn ⊢
    subst hn
    exact ho1
  · obtain ⟨b, off, rfl, _⟩ := hP 0 (by omega)
    have hmin : Nat.min m.length n = m.length := Nat.min_eq_left (by omega)
    have hcp := fun ty => run_copy_ins w1 ty g n n ⟨b, off, none⟩ m.length cap _ 25 (pCells m) hZ (by rw [hmin, pCells_len]) (prg_cells hP _ rfl) (by simp [pCells_len]; omega) (pCells_one m)
    refine ⟨_, fun ty => by rw [hcp ty, hmin], ?_, below_setRow hb1 hB _⟩
    have hrow : pCells m ++ (pCells (List.replicate n insZ)).toArray.toList.drop (pCells m).length = pCells (m ++ [insZ, insZ]) := by
      rw [e0, ← pCells_app]
      congr 1
      apply List.ext_getElem?
      intro t
      rw [List.getElem?_drop, pCells_len]
      show (pCells (List.replicate n insZ))[m.length * 5 + t]? = _
      by_cases ht : t < 2 * 5
      · have h1 := pCells_at (List.replicate n insZ) (m.length + t / 5) (t % 5) (by rw [List.length_replicate]; omega) (by omega)
        rw [show (m.length + t / 5) * 5 + t % 5 = m.length * 5 + t by omega] at h1
        have h2 := pCells_at ((List.replicate n insZ).drop m.length) (t / 5) (t % 5) (by rw [List.length_drop, List.length_replicate]; omega) (by omega)
        rw [show t / 5 * 5 + t % 5 = t by omega] at h2
        rw [h1, h2]
        congr 1
        simp only [List.getD_eq_getElem?_getD, List.getElem?_drop]
      · rw [List.getElem?_eq_none (by rw [pCells_len, List.length_replicate]; omega), List.getElem?_eq_none (by rw [pCells_len, List.length_drop, List.length_replicate]; omega)]
    rw [hrow]
    refine ⟨by rw [pCells_len, List.length_append]; simp; omega, .inr ⟨g, n, (pCells (m ++ [insZ, insZ])).toArray, rfl, hB, setRow_heap _ _ _ _ _ _ hZ, Nat.le_refl _, hm, by simp [pCells_len]; omega, ?_⟩⟩
    rw [List.take_of_length_le (by simp [pCells_len]; omega)]

set_option maxRecDepth 100000 in
set_option maxHeartbeats 2000000 in
theorem same8_yes (a b : Option Addr) (c1 c2 : Nat) (l : List Ins) (w : World) (hlen : l.length ≤ 2000000) (hA : Prg w a l) (hB : Prg w b l) :
    Calls Tryd.prog 13 #[.slice a l.length c1, .slice b l.length c2] w fun e w' => e = .returned (.bool true) ∧ ∃ n, w' = w.drewN n := by
  have HA : Hid (Prg w a l) := hA
  have HB : Hid (Prg w b l) := hB
  clear hA hB
  go_enter Tryd.func13, Tryd.ntmps13
  go_wp2_with fail
  go_loopg [5] l.length (fun k v5 wr => ∃ i : Nat, v5 = .int .i64 i ∧ i + k = l.length ∧ ∃ n, wr = w.drewN n)
  case atStart => exact ⟨0, rfl, by omega, 0, rfl⟩
  case round =>
    obtain ⟨i, rfl, hi, n, rfl⟩ := hrel
    by_cases hlt : i < l.length
    · have hlt' : (i : Int) < (l.length : Int) := by omega
      obtain ⟨ba, oa, rfl, hx⟩ := HA.out i hlt
      obtain ⟨bb, ob, rfl, hy⟩ := HB.out i hlt
      obtain ⟨W, hW⟩ : ∃ W, Hid (W = w.drewN n) := ⟨_, rfl⟩
      have hx : InsAt W ba (oa + i * 5) (l.getD i default) := by rw [hW.out]; exact ⟨hx.c0, hx.c1, hx.c2, hx.c3, hx.c4⟩
      have hy : InsAt W bb (ob + i * 5) (l.getD i default) := by rw [hW.out]; exact ⟨hy.c0, hy.c1, hy.c2, hy.c3, hy.c4⟩
      rw [← hW.out]
      obtain ⟨x0, x1, x2, x3, x4⟩ := hx
      obtain ⟨y0, y1, y2, y3, y4⟩ := hy
      generalize l.getD i default = x at *
      clear HA HB
      go_wp2_with fail
      go_quiet (fail)
      go_wp2_with fail
      go_roundg (gk - 1)
      case measure => omega
      case rel => exact ⟨i + 1, by go_num, by omega, n + nq, by rw [hW.out, drewN_add]⟩
    · have hltd : decide ((i : Int) < (l.length : Int)) = false := by simp; omega
      go_wp2_with fail
      go_ret
      exact ⟨rfl, n, rfl⟩
end Go.Proofs.YtehapcoppghppaaDoor
