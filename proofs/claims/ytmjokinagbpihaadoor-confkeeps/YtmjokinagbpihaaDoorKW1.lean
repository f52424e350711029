/- Lists copied into memory of their own, with room behind them. -/
import Derived.Test.YtmjokinagbpihaaDoorQLV
import Derived.Test.YtmjokinagbpihaaDoorQR1
namespace Go.Proofs.YtmjokinagbpihaaDoor
open Go.RowKit

theorem make_cap (t e : TypeId) (z : Value) (size bytes : Nat) (ht : Tryd.prog.underlying t = some (.slice e)) (hi : (Tryd.prog.info? e).map (fun i => (i.zero, i.size, i.bytes)) = some (some z, size, bytes)) (n : Nat) (hb : bytes * n ≤ 281474976710656) (h63 : n ≤ maxLen) (W : World) :
    (Instr.makeSlice t (.int .i64 0) (.int .i64 (n : Int))).run Tryd.prog W = .ok (.slice (some ⟨W.heap.size, 0, none⟩) 0 n) (W.alloc (.cells (madeCells z.cells (n * size)) e)) := by
  obtain ⟨i, h1, h2, h3, h4⟩ := info_parts hi
  subst h3 h4
  have h63' : (n : Int) ≤ 9223372036854775807 := by
    have h := h63
    simp [maxLen] at h
    omega
  have hb' : (i.bytes : Int) * (n : Int) ≤ 281474976710656 := by
    have h : ((i.bytes * n : Nat) : Int) ≤ 281474976710656 := by omega
    rwa [Int.natCast_mul] at h
  have hr := run_make (P := Tryd.prog) W t e i z ht h1 h2 .i64 .i64 0 n (by omega) (by omega) hb' h63'
  simp only [Int.toNat_natCast, Int.toNat_zero] at hr
  exact hr

/-- So many more behind a row, as append leaves it. -/
theorem pushM {T e : TypeId} {z : Value} {size bytes : Nat} (hu : Tryd.prog.underlying T = some (.slice e)) (hinfo : (Tryd.prog.info? e).map (fun i => (i.zero, i.size, i.bytes)) = some (some z, size, bytes)) (hzs : z.cells.size = size) (hb64 : bytes ≤ 64)
    {w : World} {a : Option Addr} {n c : Nat} {xs : List Value} (hR : Row w e size a n c xs) (hn : n ≤ 1000000000000) (us : List Value) {m : Nat} (hm : m ≤ 1000) (hus : us.length = m * size) (h1 : ∀ u ∈ us, u.oneCell' = true) {cs : Array Value} (hcs : cs = us.toArray) :
    ∃ a' c' w', (∀ ty, (Builtin.append_ #[T, T] ty #[.slice a n c, .slice (some ⟨w.heap.size, 0, none⟩) m m]).run Tryd.prog (w.alloc (.cells cs e)) = .ok (.slice a' (n + m) c') w') ∧
      Row w' e size a' (n + m) c' (xs ++ us) ∧ Mod (fun k => blk a = some k) w w' ∧ (∀ k, blk a' = some k → blk a = some k ∨ w.heap.size ≤ k) := by
  subst hcs
  obtain ⟨i, k1, k2, k3, k4⟩ := info_parts hinfo
  have hb := below_al w (.cells us.toArray e)
  have hh := heap_alloc_new w (.cells us.toArray e)
  have hs : Src Tryd.prog size T (.slice (some ⟨w.heap.size, 0, none⟩) m m) m us (w.alloc (.cells us.toArray e)) := by
    refine Src.ofSlice _ hu _ _ _ _ hus (fun j u hj => ?_) h1
    rw [addr_add, cell_of_row _ _ _ _ _ _ hh, Nat.zero_add]
    simpa using hj
  obtain ⟨a', c', w', m1, m2, m3, m4, _⟩ := run_append_row (P := Tryd.prog) _ T e i _ size bytes hu k1 k2 k3 k4 hzs (hR.below hb) _ m _ hs (by unfold maxLen; omega) (by
    have : (n + m) * bytes ≤ (n + m) * 64 := Nat.mul_le_mul_left _ hb64
    omega)
  refine ⟨a', c', w', m1, m2, (Mod.of_below _ hb).trans m3 (fun _ h => .inl h), fun k hk => ?_⟩
  rcases m4 k hk with h | h
  · exact .inl h
  · exact .inr (by have := hb.size; omega)

/-- A list copied into a row with room. -/
structure Roomy2 (T e : TypeId) (size : Nat) (W : World) (a : Option Addr) (n c : Nat) (xs : List Value) (w1 : World) (a2 : Option Addr) (c2 : Nat) (w2 : World) : Prop where
  made : (Instr.makeSlice T (.int .i64 0) (.int .i64 ((n : Int) + 2))).run Tryd.prog W = .ok (.slice (some ⟨W.heap.size, 0, none⟩) 0 (n + 2)) w1
  ap : ∀ ty, (Builtin.append_ #[T, T] ty #[.slice (some ⟨W.heap.size, 0, none⟩) 0 (n + 2), .slice a n c]).run Tryd.prog w1 = .ok (.slice a2 n c2) w2
  b1 : Below W.heap.size W w1
  b2 : Below W.heap.size W w2
  row : Row w2 e size a2 n c2 xs
  new : ∀ k, blk a2 = some k → W.heap.size ≤ k

theorem made2 {T e : TypeId} {z : Value} {size bytes : Nat} (hu : Tryd.prog.underlying T = some (.slice e)) (hinfo : (Tryd.prog.info? e).map (fun i => (i.zero, i.size, i.bytes)) = some (some z, size, bytes)) (hb64 : bytes ≤ 64) (W : World) {n : Nat} (hn : n ≤ 3000000) :
    ∃ w1, (Instr.makeSlice T (.int .i64 0) (.int .i64 ((n : Int) + 2))).run Tryd.prog W = .ok (.slice (some ⟨W.heap.size, 0, none⟩) 0 (n + 2)) w1 ∧ Below W.heap.size W w1 ∧ Row w1 e size (some ⟨W.heap.size, 0, none⟩) 0 (n + 2) [] := by
  have hbb : bytes * (n + 2) ≤ 64 * (n + 2) := Nat.mul_le_mul_right _ hb64
  have hmk := make_cap T e z size bytes hu hinfo (n + 2) (by omega) (by unfold maxLen; omega) W
  obtain ⟨w1, hw1⟩ : ∃ V, W.alloc (.cells (madeCells z.cells ((n + 2) * size)) e) = V := ⟨_, rfl⟩
  have hh := heap_alloc_new W (.cells (madeCells z.cells ((n + 2) * size)) e)
  have hB1 := below_al W (.cells (madeCells z.cells ((n + 2) * size)) e)
  rw [hw1] at hmk hh hB1
  have hr := (row_new (size := size) (n := n + 2) hh (by simp [madeCells]) (by unfold maxLen; omega)).cut 0 (n + 2) (Nat.zero_le _) (Nat.zero_le _) (Nat.le_refl _) (fun e => by cases e)
  simp only [Nat.zero_mul, List.take_zero] at hr
  refine ⟨w1, ?_, hB1, hr⟩
  have : ((n + 2 : Nat) : Int) = (n : Int) + 2 := by omega
  rw [this] at hmk
  exact hmk

theorem roomy {T e : TypeId} {z : Value} {size bytes : Nat} (hs0 : 0 < size) (hu : Tryd.prog.underlying T = some (.slice e)) (hinfo : (Tryd.prog.info? e).map (fun i => (i.zero, i.size, i.bytes)) = some (some z, size, bytes)) (hzs : z.cells.size = size) (hb64 : bytes ≤ 64)
    (W : World) {a : Option Addr} {n c : Nat} {xs : List Value} (hR : Rd W a xs) (hl : xs.length = n * size) (h1 : ∀ u ∈ xs, u.oneCell' = true) (hn : n ≤ 3000000) :
    ∃ w1 a2 c2 w2, Roomy2 T e size W a n c xs w1 a2 c2 w2 := by
  obtain ⟨i, k1, k2, k3, k4⟩ := info_parts hinfo
  obtain ⟨w1, hmk, hB1, hr⟩ := made2 (size := size) hu hinfo hb64 W hn
  obtain ⟨a2, c2, w2, m1, m2, m3, m4, _⟩ := run_append_row (P := Tryd.prog) w1 T e i _ size bytes hu k1 k2 k3 k4 hzs hr (.slice a n c) n xs ((hR.below hB1).src hu hl hs0 h1) (by unfold maxLen; omega) (by
    have : (0 + n) * bytes ≤ (0 + n) * 64 := Nat.mul_le_mul_left _ hb64
    omega)
  simp only [Nat.zero_add, List.nil_append] at m1 m2
  refine ⟨w1, a2, c2, w2, ⟨hmk, m1, hB1, hB1.trans (m3.below hB1.size (fun k _ e => by cases e; exact Nat.le_refl _)), m2, fun k hk => ?_⟩⟩
  rcases m4 k hk with h | h
  · cases h; exact Nat.le_refl _
  · exact Nat.le_trans hB1.size h

theorem Owned.plus {B : Nat} {W W' : World} {ds : List RowD} (h : Owned B W ds) (hB : B ≤ W.heap.size) (hb : Below W.heap.size W W') {d : RowD} (hd : d.ok W') (hn : ∀ k, blk d.a = some k → W.heap.size ≤ k) : Owned B W' (d :: ds) :=
  (h.below hb).cons hd (fun k hk => Nat.le_trans hB (hn k hk)) (fun d' hd' k hk e => by have h1 := hn k hk; have h2 := h.lt d' hd' k e; omega)

/-- The marks that stand in the room. -/
def mkL : List Value := [.int .u64 161, .int .u64 162]
def mkT : List Value := [.int .i64 161, .int .i64 162]
def i77 : Ins := ⟨77, 0, 0, 0, 0⟩
def i78 : Ins := ⟨78, 0, 0, 0, 0⟩
def mkI : List Value := insCells i77 ++ insCells i78
def mkP : List Value := [.int .i64 77, .slice none 0 0, .int .i64 78, .slice none 0 0]
def wdP (m : PrM) : RowD := ⟨71, 5, m.a, m.p.code.length + 2, m.c, pCells m.p.code ++ mkI⟩
def dL (c : Cfg) (g : Loc) : RowD := ⟨65, 1, g.la, c.labels.length + 2, g.lc, labC c.labels ++ mkL⟩
def dT (c : Cfg) (g : Loc) : RowD := ⟨3, 1, g.ta, c.table.length + 2, g.tc, iC c.table ++ mkT⟩
def wdD (c : Cfg) (g : Loc) : List RowD := dL c g :: dT c g :: ⟨42, 2, g.pa, c.procs.length + 2, g.pc, psC g.ms ++ mkP⟩ :: g.ms.map wdP
/-- A config of the call's own with room behind its lists. -/
structure WdO (B : Nat) (W : World) (c : Cfg) (g : Loc) : Prop where
  own : Owned B W (wdD c g)
  ps : psOf g.ms = c.procs

theorem Row.short {W : World} {e size : Nat} {a : Option Addr} {n c : Nat} {xs us : List Value} (h : Row W e size a (n + 2) c (xs ++ us)) (hl : xs.length = n * size) : Row W e size a n c xs := by
  have hc := h.capLe
  have h1 := h.cut n c (by omega) (by omega) (Nat.le_refl _) (fun e => h.room e)
  rw [List.take_append_of_le_length (by omega), List.take_of_length_le (by omega)] at h1
  exact h1
theorem pC_len (l : List Ins) : (pCells l).length = l.length * 5 := flat_len' insCells 5 (fun _ => rfl) l
/-- It is a config of the call's own. -/
theorem WdO.cfO {B : Nat} {W : World} {c : Cfg} {g : Loc} (h : WdO B W c g) : CfO B W c g := by
  have hl : c.procs.length = g.ms.length := by rw [← h.ps, psOf_len]
  refine ⟨⟨fun d hd => ?_, fun d hd k hk => ?_, ?_⟩, h.ps⟩
  · unfold cfD at hd
    rcases List.mem_cons.1 hd with rfl | hd
    · exact Row.short (h.own.ok _ List.mem_cons_self) (labC_len _)
    rcases List.mem_cons.1 hd with rfl | hd
    · exact Row.short (h.own.ok _ (List.mem_cons_of_mem _ List.mem_cons_self)) (iC_len _)
    rcases List.mem_cons.1 hd with rfl | hd
    · exact Row.short (h.own.ok _ (List.mem_cons_of_mem _ (List.mem_cons_of_mem _ List.mem_cons_self))) (by rw [psC_len, hl])
    · obtain ⟨m, hm, rfl⟩ := List.mem_map.1 hd
      exact Row.short (h.own.ok (wdP m) (List.mem_cons_of_mem _ (List.mem_cons_of_mem _ (List.mem_cons_of_mem _ (List.mem_map_of_mem hm))))) (pC_len _)
  · unfold cfD at hd
    rcases List.mem_cons.1 hd with rfl | hd
    · exact h.own.new _ List.mem_cons_self k hk
    rcases List.mem_cons.1 hd with rfl | hd
    · exact h.own.new _ (List.mem_cons_of_mem _ List.mem_cons_self) k hk
    rcases List.mem_cons.1 hd with rfl | hd
    · exact h.own.new _ (List.mem_cons_of_mem _ (List.mem_cons_of_mem _ List.mem_cons_self)) k hk
    · obtain ⟨m, hm, rfl⟩ := List.mem_map.1 hd
      exact h.own.new (wdP m) (List.mem_cons_of_mem _ (List.mem_cons_of_mem _ (List.mem_cons_of_mem _ (List.mem_map_of_mem hm)))) k hk
  · have h1 : ((wdD c g).map RowD.a).Pairwise (fun x y => ∀ k, blk x = some k → blk y ≠ some k) := by
      rw [List.pairwise_map]
      exact h.own.apart
    have h2 : (cfD c g).map RowD.a = (wdD c g).map RowD.a := by
      simp [cfD, wdD, dL, dT, wdP, prD, Function.comp_def]
    rw [← h2, List.pairwise_map] at h1
    exact h1
theorem WdO.below {B : Nat} {W W' : World} {c : Cfg} {g : Loc} (h : WdO B W c g) (hb : Below W.heap.size W W') : WdO B W' c g := ⟨h.own.below hb, h.ps⟩

/-- While a config is being copied: its own cells at G, the answer's behind them, rows of the call's own. -/
structure WI (w : World) (G : Nat) (W : World) (xs : Array Value) (ds : List RowD) : Prop where
  bx : W.heap[G]? = some (.cells xs 27 (0, 0))
  b0 : W.heap[G + 1]? = some (.cells #[.slice none 0 0, .slice none 0 0, .int .i64 0, .int .i64 0, .int .i64 0, .int .i64 0, .slice none 0 0] 27 (0, 0))
  own : Owned (G + 2) W ds
  bel : Below w.heap.size w W
  at_ : w.heap.size = G
  sz : G + 2 ≤ W.heap.size
section
variable {w W W' : World} {G : Nat} {xs : Array Value} {ds : List RowD}
theorem WI.after (h : WI w G W xs ds) (hb : Below W.heap.size W W') : WI w G W' xs ds :=
  ⟨(hb.block G (by have := h.sz; omega)).trans h.bx, (hb.block (G + 1) (by have := h.sz; omega)).trans h.b0, h.own.below hb, h.bel.trans (hb.mono h.bel.size), h.at_, Nat.le_trans h.sz hb.size⟩
theorem WI.plus (h : WI w G W xs ds) (hb : Below W.heap.size W W') {d : RowD} (hd : d.ok W') (hn : ∀ k, blk d.a = some k → W.heap.size ≤ k) : WI w G W' xs (d :: ds) :=
  ⟨(h.after hb).bx, (h.after hb).b0, h.own.plus h.sz hb hd hn, (h.after hb).bel, h.at_, (h.after hb).sz⟩
theorem WI.put (h : WI w G W xs ds) (i : Nat) (v : Value) : WI w G (W.setCell ⟨G, i, none⟩ v) (xs.setIfInBounds i v) ds := by
  have hm : Mod (fun k => k = G) W (W.setCell ⟨G, i, none⟩ v) := (Mod.refl (fun k => k = G) W).setCell (.inl rfl) v
  have h1 := h.sz
  have h2 := h.bel.size
  have h3 := h.at_
  refine ⟨heap_setCell_same W G i _ _ v h.bx, ?_, h.own.put (by omega) i v, h.bel.trans (hm.below (B := w.heap.size) h.bel.size (fun k _ hk => by omega)), h.at_, ?_⟩
  · rw [hm.block (G + 1) (by omega) (by omega)]
    exact h.b0
  · have : (W.setCell ⟨G, i, none⟩ v).heap.size = W.heap.size := by simp [World.setCell]
    omega
theorem WI.perm (h : WI w G W xs ds) {ds' : List RowD} (hp : ds.Perm ds') : WI w G W xs ds' := ⟨h.bx, h.b0, h.own.perm hp, h.bel, h.at_, h.sz⟩
/-- The first row has been changed. -/
theorem WI.turn {d d' : RowD} (h : WI w G W xs (d :: ds)) (hm : Mod (fun k => blk d.a = some k) W W') (hd : d'.ok W') (hn : ∀ k, blk d'.a = some k → blk d.a = some k ∨ W.heap.size ≤ k) : WI w G W' xs (d' :: ds) := by
  have hpa : ∀ k, blk d.a = some k → G + 2 ≤ k := fun k hk => h.own.new d List.mem_cons_self k hk
  have h1 := h.sz
  have h3 := h.at_
  refine ⟨?_, ?_, h.own.turn h.sz hm hd hn, h.bel.trans (hm.below (B := w.heap.size) h.bel.size (fun k _ hk => by have := hpa k hk; omega)), h.at_, Nat.le_trans h.sz hm.size⟩
  · rw [hm.block G (by omega) (fun e => by have := hpa G e; omega)]
    exact h.bx
  · rw [hm.block (G + 1) (by omega) (fun e => by have := hpa (G + 1) e; omega)]
    exact h.b0
theorem WI.cell (h : WI w G W xs ds) (i : Nat) : W.cell? ⟨G, i, none⟩ = xs[i]? := cell_of_row _ _ _ _ _ _ h.bx
theorem WI.free (h : WI w G W xs ds) (i : Nat) : W.frozen? ⟨G, i, none⟩ = false := by simp [World.frozen?, h.bx]
end
end Go.Proofs.YtmjokinagbpihaaDoor
