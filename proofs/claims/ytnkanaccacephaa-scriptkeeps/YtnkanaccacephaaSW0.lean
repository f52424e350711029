/- Bytes as cells; rows that grow. -/
import Derived.Test.YtnkanaccacephaaSM2
import Derived.Test.YtnkanaccacephaaLW1
import Derived.WalkSpells
import Derived.WalkLawsBesides
import Derived.Deep.Quiet
import Derived.Deep.QuietTactic
import Derived.BigQuiet
import Derived.Laws.AppendOwn
import Derived.Deep.AppendLies
import Derived.Laws.BitsAllLaws
import Derived.Deep.LoopGhost
import Derived.Deep.RegionHeld3
import Derived.Deep.CondSized
import Derived.Deep.DeepCutAuto
import Derived.Deep.CutRange
import Derived.Deep.CutBlock
import Derived.Deep.QuietTactic
import Derived.BigQuiet
import Derived.Laws.MakeOwn
namespace Go.Proofs.Ytnkanaccacephaa
open Go.RowKit

theorem ret_bool {a b : Bool} (h : a = b) : Ending.returned (.bool a) = .returned (.bool b) := by rw [h]
theorem ret_int {k : IntKind} {a b : Int} (h : a = b) : Ending.returned (.int k a) = .returned (.int k b) := by rw [h]
theorem ret_two {a b a' b' : Int} (h1 : a = a') (h2 : b = b') : Ending.returned (.tuple #[.int .i64 a, .int .i64 b]) = .returned (.tuple #[.int .i64 a', .int .i64 b']) := by rw [h1, h2]
theorem info_u8 : (Try.prog.info? 5).map (fun i => (i.zero, i.size, i.bytes)) = some (some (.int .u8 0), 1, 1) := by kernel_rfl
theorem info_parts {t : TypeId} {z : Value} {s b : Nat} (h : (Try.prog.info? t).map (fun i => (i.zero, i.size, i.bytes)) = some (some z, s, b)) : ∃ i, Try.prog.info? t = some i ∧ i.zero = some z ∧ i.size = s ∧ i.bytes = b := by
  cases hh : Try.prog.info? t with
  | none => rw [hh] at h; cases h
  | some i => rw [hh] at h; simp at h; exact ⟨i, rfl, h.1, h.2.1, h.2.2⟩
/-- Bytes as cells. -/
def bCells (l : List Nat) : List Value := l.map fun b : Nat => Value.int .u8 (b : Int)
theorem bCells_len (l : List Nat) : (bCells l).length = l.length := by simp [bCells]
theorem bCells_app (l m : List Nat) : bCells l ++ bCells m = bCells (l ++ m) := by simp [bCells]
theorem mod_b8 (z : Int) : z % 256 = (b8 z : Int) := by unfold b8; omega
theorem mod_u64 (z : Int) : z % 18446744073709551616 = (u64 z : Int) := by unfold u64; omega
theorem wrap_u64 (z : Int) : IntKind.u64.wrap z = z % 18446744073709551616 := by
  unfold IntKind.wrap
  rw [show IntKind.u64.signed = false from rfl]
  rfl
theorem or_val {S y j T : Nat} (hS : S < 2 ^ (8 * j)) (hy : y < 256) (hj : j < 8) (hT : T = S + y * 2 ^ (8 * j)) :
    bits .or .u64 (S : Int) (IntKind.u64.wrap ((y : Int) * 2 ^ (8 * j))) = (T : Int) := by
  have hp : 2 ^ (8 * j) * 256 ≤ 18446744073709551616 := by
    have h1 : 2 ^ (8 * j) * 256 = 2 ^ (8 * j + 8) := by rw [Nat.pow_add]
    have h2 : 2 ^ (8 * j + 8) ≤ 2 ^ 64 := Nat.pow_le_pow_right (by decide) (by omega)
    have h3 : (2 : Nat) ^ 64 = 18446744073709551616 := by decide
    omega
  have hyp : y * 2 ^ (8 * j) < 18446744073709551616 := by
    have h1 : y * 2 ^ (8 * j) ≤ 255 * 2 ^ (8 * j) := Nat.mul_le_mul_right _ (by omega)
    have h2 : 0 < 2 ^ (8 * j) := Nat.two_pow_pos _
    omega
  have hor : S ||| y * 2 ^ (8 * j) = T := by
    rw [Nat.mul_comm, Nat.or_comm, ← Nat.two_pow_add_eq_or_of_lt hS, hT, Nat.mul_comm]
    omega
  have h2 : 0 < 2 ^ (8 * j) := Nat.two_pow_pos _
  generalize 8 * j = q at *
  have h1 : ((2 ^ q : Nat) : Int) = (2 : Int) ^ q := by simp
  rw [← h1]
  generalize 2 ^ q = P at *
  have e1 : (y : Int) * (P : Int) = ((y * P : Nat) : Int) := by simp
  have e2 : IntKind.u64.wrap ((y * P : Nat) : Int) = ((y * P : Nat) : Int) := by
    rw [wrap_u64]
    generalize y * P = M at *
    omega
  rw [e1, e2, u64_or_nat S (y * P) (by omega) hyp, hor]
theorem sum_lt8 {S j : Nat} (h : S < 2 ^ (8 * j)) (hj : j ≤ 8) : S < 18446744073709551616 := by
  have h2 : 2 ^ (8 * j) ≤ 2 ^ 64 := Nat.pow_le_pow_right (by decide) (by omega)
  have h3 : (2 : Nat) ^ 64 = 18446744073709551616 := by decide
  omega
set_option maxRecDepth 100000 in
theorem wrap_i64_nat (S : Nat) : IntKind.i64.wrap (S : Int) = wrap64 (S : Int) := by
  unfold wrap64
  generalize (S : Int) = z
  rw [IntKind.wrap_i64]
/-- One more of a row of whatever, as append leaves it. -/
theorem push_any {T e : TypeId} {z : Value} {size bytes : Nat} (hu : Try.prog.underlying T = some (.slice e)) (hinfo : (Try.prog.info? e).map (fun i => (i.zero, i.size, i.bytes)) = some (some z, size, bytes)) (hzs : z.cells.size = size) (hb64 : bytes ≤ 64)
    {w : World} {a : Option Addr} {n c : Nat} {xs : List Value} (hR : Row w e size a n c xs) (hn : n ≤ 1000000000000) (us : List Value) (hus : us.length = size) (h1 : ∀ u ∈ us, u.oneCell' = true) :
    ∃ a' c' w', (∀ ty, (Builtin.append_ #[T, T] ty #[.slice a n c, .slice (some ⟨w.heap.size, 0, none⟩) 1 1]).run Try.prog (w.alloc (.cells us.toArray e)) = .ok (.slice a' (n + 1) c') w') ∧
      Row w' e size a' (n + 1) c' (xs ++ us) ∧ Mod (fun k => blk a = some k) w w' ∧ (∀ k, blk a' = some k → blk a = some k ∨ w.heap.size ≤ k) := by
  obtain ⟨i, k1, k2, k3, k4⟩ := info_parts hinfo
  have hb := below_al w (.cells us.toArray e)
  have hh := heap_alloc_new w (.cells us.toArray e)
  have hs : Src Try.prog size T (.slice (some ⟨w.heap.size, 0, none⟩) 1 1) 1 us (w.alloc (.cells us.toArray e)) := by
    refine Src.ofSlice _ hu _ _ _ _ (by omega) (fun j u hj => ?_) h1
    rw [addr_add, cell_of_row _ _ _ _ _ _ hh, Nat.zero_add]
    simpa using hj
  obtain ⟨a', c', w', m1, m2, m3, m4, _⟩ := run_append_row (P := Try.prog) _ T e i _ size bytes hu k1 k2 k3 k4 hzs (hR.below hb) _ 1 _ hs (by unfold maxLen; omega) (by
    have : (n + 1) * bytes ≤ (n + 1) * 64 := Nat.mul_le_mul_left _ hb64
    omega)
  refine ⟨a', c', w', m1, m2, (Mod.of_below _ hb).trans m3 (fun _ h => .inl h), fun k hk => ?_⟩
  rcases m4 k hk with h | h
  · exact .inl h
  · exact .inr (by have := hb.size; omega)
/-- At an append whose run is known. -/
theorem wpList_append_run {P : Program} {w : World} {ops : Array Oper} {rest : List Oper} {o : Oper} {a : Act} {Q : Exit → Act → World → Prop} (hgd : o.guard = none) (s x : Operand) (t : TypeId)
    (ho : o.op = .call { callee := .builtin .append, args := #[s, x], argTypes := #[t, t] }) (v vx v' : Value) (w' : World) (hs : a.eval s = v) (hx : a.eval x = vx)
    (hrun : ∀ ty, (Builtin.append_ #[t, t] ty #[v, vx]).run P w = .ok v' w') (h : wpList P ops Q rest (a.put o.dst v') w') : wpList P ops Q (o :: rest) a w :=
  wpList_plain hgd fun K hK => by
    unfold Oper.wp execOp
    simp only [ho, resolve, invoke, builtin, Sem.run_bind, Sem.run_pure, Result.andThen_ok, List.map_toArray, List.map_cons, List.map_nil, hs, hx, hrun]
    exact hK _ _ h
theorem step_append_run {P : Program} {w : World} {ops : Array Oper} {o : Oper} {a : Act} {K : Act → World → Prop} {Q : Exit → Act → World → Prop} {E : Prop} (hgd : o.guard = none) (s x : Operand) (t : TypeId)
    (ho : o.op = .call { callee := .builtin .append, args := #[s, x], argTypes := #[t, t] }) (v vx v' : Value) (w' : World) (hs : a.eval s = v) (hx : a.eval x = vx)
    (hrun : ∀ ty, (Builtin.append_ #[t, t] ty #[v, vx]).run P w = .ok v' w') (h : K (a.put o.dst v') w') : if Region.wanted o (yielded ops a.tmps) = true then Oper.wp P o a w K Q else E := by
  have hw : Region.wanted o (yielded ops a.tmps) = true := by simp [Region.wanted, hgd]
  rw [if_pos hw]
  unfold Oper.wp execOp
  simp only [ho, resolve, invoke, builtin, Sem.run_bind, Sem.run_pure, Result.andThen_ok, List.map_toArray, List.map_cons, List.map_nil, hs, hx, hrun]
  exact h
theorem Rd.apart {S : Nat → Prop} {B : Nat} {w w' w0 : World} {a : Option Addr} {xs : List Value} (h0 : Rd w0 a xs) (h : Rd w a xs) (hm : Mod S w w') (hs : ∀ k, S k → B ≤ k) (hB : B = w0.heap.size) : Rd w' a xs := fun j u hj => by
  obtain ⟨b, o, rfl, hc⟩ := h j u hj
  obtain ⟨b', o', e, hc0⟩ := h0 j u hj
  cases e
  have hl := World.block_lt_of_cell? w0 _ hc0
  refine ⟨b, o, rfl, ?_⟩
  rw [hm.cell (p := ⟨b, o + j, none⟩) (World.block_lt_of_cell? w _ hc) (fun k => by have := hs _ k; simp only at this hl; omega)]
  exact hc
theorem below_draw (w : World) (n : Nat) : Below w.heap.size w (w.drewN n) := ⟨rfl, rfl, rfl, Nat.le_refl _, fun _ _ => rfl⟩
theorem rd_mod {w w' : World} {S : Nat → Prop} {a : Option Addr} {bs : List Nat} (h : Rd w a (bCells bs)) (hb : bs.length ≠ 0 → ∀ k, blk a = some k → ¬ S k) (hm : Mod S w w') : Rd w' a (bCells bs) := fun j u hj => by
  obtain ⟨b, o, rfl, hc⟩ := h j u hj
  have hl : bs.length ≠ 0 := by
    intro e
    rw [List.getElem?_eq_none (by rw [bCells_len]; omega)] at hj
    cases hj
  exact ⟨b, o, rfl, by rw [hm.cell (p := ⟨b, o + j, none⟩) (World.block_lt_of_cell? w _ hc) (hb hl b rfl)]; exact hc⟩
/-- How a reader stands: where the last number began, where the next one begins, what is wrong, and where. -/
structure St where
  fr : Nat
  nx : Nat
  e : Int
  at_ : Int
def numS (bs : List Nat) (k : Nat) (s : St) : Nat × St :=
  if s.e ≠ 0 then (0, s) else if bs.length < s.nx + k then (0, { s with e := 5, at_ := bs.length }) else (sumB bs s.nx k, { s with fr := s.nx, nx := s.nx + k })
def failS (s : St) (e a : Int) : St := if s.e = 0 ∧ e ≠ 0 then { s with e := e, at_ := a } else s
theorem bCells_one (l : List Nat) : ∀ u ∈ bCells l, u.oneCell' = true := by
  intro u hu
  obtain ⟨x, _, rfl⟩ := List.mem_map.mp hu
  rfl
/-- Bytes of the call's own; all else is as it was. -/
structure Gr (w W : World) (a : Option Addr) (n c : Nat) (bs : List Nat) : Prop where
  row : Row W 5 1 a n c (bCells bs)
  new : ∀ k, blk a = some k → w.heap.size ≤ k
  bel : Below w.heap.size w W
theorem Gr.len {w W : World} {a : Option Addr} {n c : Nat} {bs : List Nat} (h : Gr w W a n c bs) : bs.length = n := by
  have := h.row.len
  rw [bCells_len] at this
  omega
theorem Gr.below {w W W' : World} {a : Option Addr} {n c : Nat} {bs : List Nat} (h : Gr w W a n c bs) (hb : Below W.heap.size W W') : Gr w W' a n c bs := ⟨h.row.below hb, h.new, h.bel.trans (hb.mono h.bel.size)⟩
/-- From row to row: nothing else was written. -/
structure GrTo (W : World) (a : Option Addr) (W' : World) (a' : Option Addr) : Prop where
  mod : Mod (fun k => blk a = some k) W W'
  new : ∀ k, blk a' = some k → blk a = some k ∨ W.heap.size ≤ k
theorem GrTo.refl (W : World) (a : Option Addr) : GrTo W a W a := ⟨Mod.refl _ _, fun _ h => .inl h⟩
theorem GrTo.trans {W W' W2 : World} {a a' a2 : Option Addr} (h : GrTo W a W' a') (k : GrTo W' a' W2 a2) : GrTo W a W2 a2 :=
  ⟨h.mod.trans k.mod h.new, fun i hi => by
    rcases k.new i hi with h1 | h1
    · exact h.new i h1
    · exact .inr (Nat.le_trans h.mod.size h1)⟩
theorem GrTo.below {W W' W2 : World} {a a' : Option Addr} (h : GrTo W a W' a') (hb : Below W'.heap.size W' W2) : GrTo W a W2 a' := ⟨h.mod.after hb, h.new⟩
theorem GrTo.ahead {W W' W2 : World} {a a' : Option Addr} (hb : Below W.heap.size W W') (h : GrTo W' a W2 a') : GrTo W a W2 a' :=
  ⟨(Mod.of_below (fun k => blk a = some k) hb).trans h.mod (fun k hk => .inl hk), fun k hk => by
    rcases h.new k hk with h1 | h1
    · exact .inl h1
    · exact .inr (Nat.le_trans hb.size h1)⟩
theorem Gr.push {w W : World} {a : Option Addr} {n c : Nat} {bs : List Nat} (h : Gr w W a n c bs) (hn : n ≤ 1000000000) (y : Nat) :
    ∃ a' c' W', (∀ ty, (Builtin.append_ #[27, 27] ty #[.slice a n c, .slice (some ⟨W.heap.size, 0, none⟩) 1 1]).run Try.prog (W.alloc (.cells #[.int .u8 (y : Int)] 5)) = .ok (.slice a' (n + 1) c') W') ∧ Gr w W' a' (n + 1) c' (bs ++ [y]) ∧ GrTo W a W' a' := by
  obtain ⟨a', c', W', k1, k2, k3, k4⟩ := push_any Try.underlying27 info_u8 rfl (by omega) h.row (by omega) [.int .u8 (y : Int)] rfl (bCells_one [y])
  refine ⟨a', c', W', k1, ⟨?_, fun k hk => ?_, h.bel.trans (k3.below (B := w.heap.size) h.bel.size (fun k _ hk => h.new k hk))⟩, ⟨k3, k4⟩⟩
  · rw [← bCells_app]
    exact k2
  · rcases k4 k hk with h1 | h1
    · exact h.new k h1
    · have := h.bel.size
      omega
theorem Gr.app {w W : World} {a : Option Addr} {n c : Nat} {bs : List Nat} (h : Gr w W a n c bs) (hn : n ≤ 1000000000) {a2 : Option Addr} {c2 m : Nat} {ms : List Nat} (hm : Rd W a2 (bCells ms)) (hl : ms.length = m) (hml : m ≤ 1000000000) :
    ∃ a' c' W', (∀ ty, (Builtin.append_ #[27, 27] ty #[.slice a n c, .slice a2 m c2]).run Try.prog W = .ok (.slice a' (n + m) c') W') ∧ Gr w W' a' (n + m) c' (bs ++ ms) ∧ GrTo W a W' a' := by
  obtain ⟨i, k1, k2, k3, k4⟩ := info_parts info_u8
  have hs : Src Try.prog 1 27 (.slice a2 m c2) m (bCells ms) W := Rd.src hm Try.underlying27 (by rw [bCells_len]; omega) (by omega) (bCells_one ms)
  obtain ⟨a', c', W', m1, m2, m3, m4, _⟩ := run_append_row (P := Try.prog) _ 27 5 i _ 1 1 Try.underlying27 k1 k2 k3 k4 rfl h.row _ m _ hs (by unfold maxLen; omega) (by omega)
  refine ⟨a', c', W', m1, ⟨?_, fun k hk => ?_, h.bel.trans (m3.below (B := w.heap.size) h.bel.size (fun k _ hk => h.new k hk))⟩, ⟨m3, m4⟩⟩
  · rw [← bCells_app]
    exact m2
  · rcases m4 k hk with h1 | h1
    · exact h.new k h1
    · have := h.bel.size
      omega
/-- append onto a row that has no room. -/
theorem run_append_full {P : Program} (w : World) (t e : TypeId) (i : TypeInfo) (z : Value) (size bytes : Nat) (ht : P.underlying t = some (.slice e)) (hi : P.info? e = some i) (hz : i.zero = some z)
    (hsize : i.size = size) (hby : i.bytes = bytes) (hzs : z.cells.size = size)
    {a : Addr} {n : Nat} {xs : List Value} (hR : Rd w (some a) xs) (hl : xs.length = n * size) (x : Value) (m : Nat) (hm : 0 < m) (news : List Value) (hs : Src P size t x m news w)
    (h63 : n + m ≤ maxLen) (hbytes : (n + m) * bytes ≤ 140737488355328) :
    ∃ cap' w', (∀ ty, (Builtin.append_ #[t, t] ty #[.slice (some a) n n, x]).run P w = .ok (.slice (some ⟨w.heap.size, 0, none⟩) (n + m) cap') w') ∧ Row w' e size (some ⟨w.heap.size, 0, none⟩) (n + m) cap' (xs ++ news) ∧ Below w.heap.size w w' := by
  subst hsize
  have hnl := hs.newsLen
  have hold : (Builtin.firstCells i.size n (.slice (some a) n n)).run P w.drew = .ok xs.toArray w.drew := by
    refine run_firstCells_some _ _ _ _ _ _ _ hl (fun j v hj => ?_)
    obtain ⟨b, o, h2, h3⟩ := hR j v hj
    cases h2
    rw [addr_add]
    exact h3
  have hg := fun ty => run_append_grow_src (P := P) w t t ty e i z ht hi hz (some a) n n xs hold x m news hs (by omega) (by unfold maxLen at h63; omega) (growslice_fits (by omega) (by rw [hby]; exact hbytes))
  refine ⟨_, _, hg, ?_, ?_⟩
  · have hcap : n + m ≤ grownCap w (n + m) n e ∧ grownCap w (n + m) n e ≤ maxLen := ⟨grownCap_ge w (n + m) n e, grownCap_le_maxLen w (n + m) n e h63⟩
    refine ⟨by rw [List.length_append, hl, hnl, Nat.add_mul], hcap.1, hcap.2, .inr ⟨_, _, rfl, heap_alloc_new _ _, ?_, ?_⟩⟩
    · simp [size_zeroCells, hzs, hl, hnl]
      rw [← Nat.add_mul, ← Nat.add_mul]
      exact Nat.mul_le_mul_right _ (by omega)
    · simp only [Array.toList_append]
      rw [List.take_append_of_le_length (by simp [hl, hnl, Nat.add_mul]), List.take_of_length_le (by simp [hl, hnl, Nat.add_mul])]
  · exact ((Below.refl _ w).drew).trans (below_al w.drew _)
/-- One byte behind bytes that have no room. -/
theorem Gr.first {w W : World} {a : Addr} {n : Nat} {bs : List Nat} (hR : Rd W (some a) (bCells bs)) (hl : bs.length = n) (hn : n ≤ 1000000000) (hb : Below w.heap.size w W) (y : Nat) :
    ∃ a' c' W', (∀ ty, (Builtin.append_ #[27, 27] ty #[.slice (some a) n n, .slice (some ⟨W.heap.size, 0, none⟩) 1 1]).run Try.prog (W.alloc (.cells #[.int .u8 (y : Int)] 5)) = .ok (.slice a' (n + 1) c') W') ∧ Gr w W' a' (n + 1) c' (bs ++ [y]) := by
  obtain ⟨i, k1, k2, k3, k4⟩ := info_parts info_u8
  have hb1 := below_al W (.cells #[.int .u8 (y : Int)] 5)
  have hh := heap_alloc_new W (.cells #[.int .u8 (y : Int)] 5)
  have hs : Src Try.prog 1 27 (.slice (some ⟨W.heap.size, 0, none⟩) 1 1) 1 (bCells [y]) (W.alloc (.cells #[.int .u8 (y : Int)] 5)) := by
    refine Src.ofSlice _ Try.underlying27 _ _ _ _ rfl (fun j u hj => ?_) (bCells_one [y])
    rw [addr_add, cell_of_row _ _ _ _ _ _ hh, Nat.zero_add]
    simpa [bCells] using hj
  obtain ⟨c', W', m1, m2, m3⟩ := run_append_full (P := Try.prog) _ 27 5 i _ 1 1 Try.underlying27 k1 k2 k3 k4 rfl (n := n) (hR.below hb1) (by rw [bCells_len]; omega) _ 1 (by omega) _ hs (by unfold maxLen; omega) (by omega)
  refine ⟨_, c', W', m1, ⟨?_, fun k hk => ?_, hb.trans ((hb1.trans (m3.mono hb1.size)).mono hb.size)⟩⟩
  · rw [← bCells_app]
    exact m2
  · exact Nat.le_trans hb.size (Nat.le_trans hb1.size (Nat.le_of_eq (Option.some.inj hk)))
theorem numB_snoc (k v : Nat) : numB (k + 1) v = numB k v ++ [v / 2 ^ (8 * k) % 256] := by
  unfold numB
  rw [List.range_succ]
  simp
set_option maxRecDepth 100000 in
set_option maxHeartbeats 1000000 in
theorem dnumber_any {w W : World} {a : Option Addr} {n c : Nat} {bs : List Nat} (h : Gr w W a n c bs) (hn : n ≤ 900000000) (v k : Nat) (hk : k ≤ 8) :
    Calls Try.prog 22 #[.slice a n c, .int .u64 (v : Int), .int .i64 (k : Int)] W fun e W' => ∃ a' c', e = .returned (.slice a' (n + k) c') ∧ Gr w W' a' (n + k) c' (bs ++ numB k v) ∧ GrTo W a W' a' := by
  have H := hd h
  clear h
  go_enter Try.func22, Try.ntmps22
  go_wp2_with fail
  go_loopg [0, 7, 8, 9, 10, 11, 12, 13, 14, 15, 16, 17, 18, 19, 20] k (fun g v0 v7 v8 v9 v10 v11 v12 v13 v14 v15 v16 v17 v18 v19 v20 wr => ∃ (j : Nat) (a' : Option Addr) (c' : Nat), j + g = k ∧ v7 = .int .i64 (j : Int) ∧ v0 = .slice a' (n + j) c' ∧ Hid (Gr w wr a' (n + j) c' (bs ++ numB j v) ∧ GrTo W a wr a'))
  case atStart => exact ⟨0, a, c, by omega, by go_num, rfl, hd ⟨by simpa [numB] using H.out, GrTo.refl W a⟩⟩
  case round =>
    obtain ⟨j, a', c', hj, rfl, rfl, HG⟩ := hrel
    by_cases h0 : gk = 0
    · subst h0
      obtain rfl : j = k := by omega
      go_wp2_with fail
      go_ret
      exact ⟨a', c', rfl, HG.out⟩
    · have hlt : (j : Int) < (k : Int) := by omega
      obtain ⟨a2, c2, w2, hap, hg2, ht2⟩ := HG.out.1.push (by omega) (v / 2 ^ (8 * j) % 256)
      rw [List.append_assoc, ← numB_snoc] at hg2
      have HY : Hid ((v / 2 ^ (8 * j) % 256 : Nat) = v / 2 ^ (8 * j) % 256) := hd rfl
      replace hg2 := hd (And.intro hg2 (HG.out.2.trans ht2))
      clear ht2 HG
      have ey : (v : Int) / 2 ^ (8 * j) % 256 = ((v / 2 ^ (8 * j) % 256 : Nat) : Int) := by simp
      generalize v / 2 ^ (8 * j) % 256 = y at *
      replace hap := hd hap
      clear HY
      go_wp2_with (at_builtin; refine wpList_append_run rfl _ _ _ rfl _ _ _ _ rfl rfl hap.out ?_; clear hap)
      go_roundg (gk - 1)
      case rel => exact ⟨j + 1, a2, c2, by omega, by go_num, rfl, hg2⟩
      case measure => omega
section
variable {bs : List Nat} {s : St}
theorem numS_lt (hb : Byte bs) (k : Nat) (hk : k ≤ 2) : (numS bs k s).1 < 65536 := by
  unfold numS
  split
  · simp
  · split
    · simp
    · have h1 := sumB_lt bs s.nx hb k
      have h2 : 2 ^ (8 * k) ≤ 2 ^ 16 := Nat.pow_le_pow_right (by decide) (by omega)
      have h3 : (2 : Nat) ^ 16 = 65536 := by decide
      simp only
      omega
/-- A number that has a check. -/
def chkS (bs : List Nat) (k : Nat) (f : Nat → Int) (s : St) : Nat × St := ((numS bs k s).1, failS (numS bs k s).2 (f (numS bs k s).1) (numS bs k s).2.fr)
end
/-- Of the whole this is left to be read, or something is wrong. -/
def Stage {α : Type} (whole : Res α) (s : St) (rest : Res α) : Prop := (s.e = 0 ∧ s.at_ = 0 ∧ whole = rest) ∨ (s.e ≠ 0 ∧ whole = .er s.e s.at_)
theorem failS_bad {s : St} {x y : Int} (h : s.e ≠ 0) : failS s x y = s := by unfold failS; rw [if_neg (fun k => h k.1)]
theorem failS_ok {s : St} {y : Int} : failS s 0 y = s := by unfold failS; rw [if_neg (fun k => k.2 rfl)]
theorem failS_set {s : St} {x y : Int} (h : s.e = 0) (hx : x ≠ 0) : failS s x y = { s with e := x, at_ := y } := by unfold failS; rw [if_pos ⟨h, hx⟩]
theorem numS_bad {bs : List Nat} {k : Nat} {s : St} (h : s.e ≠ 0) : numS bs k s = (0, s) := by unfold numS; rw [if_pos h]
theorem chkS_bad {bs : List Nat} {k : Nat} {f : Nat → Int} {s : St} (h : s.e ≠ 0) : chkS bs k f s = (0, s) := by
  unfold chkS
  rw [numS_bad h, failS_bad h]
theorem Stage.chk {α : Type} {whole : Res α} {s : St} {bs : List Nat} {k : Nat} {f : Nat → Int} {g : Nat → Par α} (h : Stage whole s (bind_ (numP k f) g bs s.nx)) :
    Stage whole (chkS bs k f s).2 (g (chkS bs k f s).1 bs (chkS bs k f s).2.nx) := by
  rcases h with ⟨h1, h2, h3⟩ | ⟨h1, h2⟩
  · unfold bind_ numP at h3
    unfold chkS numS
    rw [if_neg (by simp [h1])]
    by_cases hl : bs.length < s.nx + k
    · rw [if_pos hl] at h3 ⊢
      right
      rw [failS_bad (by simp)]
      exact ⟨by simp, h3⟩
    · rw [if_neg hl] at h3 ⊢
      simp only
      by_cases hf : f (sumB bs s.nx k) ≠ 0
      · rw [if_pos hf] at h3
        rw [failS_set (by exact h1) hf]
        right
        exact ⟨hf, h3⟩
      · rw [if_neg hf] at h3
        have hf' : f (sumB bs s.nx k) = 0 := by simpa using hf
        rw [hf', failS_ok]
        left
        exact ⟨h1, h2, h3⟩
  · rw [chkS_bad h1]
    right
    exact ⟨h1, h2⟩
theorem chk_val {s : St} {bs : List Nat} {k : Nat} {f : Nat → Int} (h : (chkS bs k f s).2.e = 0) : s.e = 0 ∧ f (chkS bs k f s).1 = 0 ∧ s.nx + k ≤ bs.length ∧ (chkS bs k f s).1 = sumB bs s.nx k ∧ (chkS bs k f s).2 = { s with fr := s.nx, nx := s.nx + k } := by
  by_cases h0 : s.e = 0
  · unfold chkS numS at *
    rw [if_neg (by simp [h0])] at *
    by_cases hl : bs.length < s.nx + k
    · rw [if_pos hl, failS_bad (by simp)] at h
      simp at h
    · rw [if_neg hl] at *
      simp only at *
      by_cases hf : f (sumB bs s.nx k) = 0
      · rw [hf, failS_ok] at *
        exact ⟨h0, by trivial, by omega, by trivial, by trivial⟩
      · rw [failS_set (by exact h0) hf] at h
        exact absurd h hf
  · rw [chkS_bad h0] at h
    exact absurd h h0
theorem Stage.good {α : Type} {whole rest : Res α} {s : St} (h : Stage whole s rest) (h0 : s.e = 0) : whole = rest ∧ s.at_ = 0 := by
  rcases h with ⟨_, h2, h3⟩ | ⟨h1, _⟩
  · exact ⟨h3, h2⟩
  · exact absurd h0 h1
theorem Stage.bad {α : Type} {whole rest : Res α} {s : St} (h : Stage whole s rest) (h0 : s.e ≠ 0) : whole = .er s.e s.at_ := by
  rcases h with ⟨h1, _⟩ | ⟨_, h2⟩
  · exact absurd h1 h0
  · exact h2
theorem Stage.sub {α β : Type} {whole : Res α} {s s' : St} {bs : List Nat} {X : Par β} {k : β → Par α} {l : β} (h : Stage whole s (bind_ X k bs s.nx)) (h0 : s.e = 0) (h1 : Stage (X bs s.nx) s' (pure_ l bs s'.nx)) : Stage whole s' (k l bs s'.nx) := by
  obtain ⟨hw, ha⟩ := h.good h0
  unfold bind_ at hw
  rcases h1 with ⟨e1, e2, e3⟩ | ⟨e1, e2⟩
  · rw [e3] at hw
    exact .inl ⟨e1, e2, hw⟩
  · rw [e2] at hw
    exact .inr ⟨e1, hw⟩
theorem numB_one (u : Nat) : numB 1 u = [u % 256] := by simp [numB]
theorem take_flat {α : Type} [Inhabited α] (f : α → List Nat) (l : List α) (i : Nat) (h : i < l.length) : (l.take (i + 1)).flatMap f = (l.take i).flatMap f ++ f (l.getD i default) := by
  rw [List.take_add_one, List.flatMap_append, List.getD_eq_getElem?_getD, List.getElem?_eq_getElem h]
  simp
theorem pre_len {α : Type} [Inhabited α] (f : α → List Nat) (l : List α) (i : Nat) : ((l.take i).flatMap f).length ≤ (l.flatMap f).length := by
  conv => rhs; rw [← List.take_append_drop i l]
  rw [List.flatMap_append, List.length_append]
  omega
end Go.Proofs.Ytnkanaccacephaa
