/- Bytes that are being written. -/
import Derived.Test.YtmjokinagbpihaaDoorQD3
import Derived.Lib.SlBytesConst
namespace Go.Proofs.YtmjokinagbpihaaDoor
open Go.RowKit

/-- Bytes of the call's own; all else is as it was. -/
structure Gr (w W : World) (a : Option Addr) (n c : Nat) (bs : List Nat) : Prop where
  row : Row W 5 1 a n c (bCells bs)
  new : ∀ k, blk a = some k → w.heap.size ≤ k
  bel : Below w.heap.size w W

theorem bCells_one (l : List Nat) : ∀ u ∈ bCells l, u.oneCell' = true := by
  intro u hu
  obtain ⟨x, _, rfl⟩ := List.mem_map.mp hu
  rfl
theorem Gr.len {w W : World} {a : Option Addr} {n c : Nat} {bs : List Nat} (h : Gr w W a n c bs) : bs.length = n := by
  have := h.row.len
  rw [bCells_len] at this
  omega
theorem Gr.below {w W W' : World} {a : Option Addr} {n c : Nat} {bs : List Nat} (h : Gr w W a n c bs) (hb : Below W.heap.size W W') : Gr w W' a n c bs := ⟨h.row.below hb, h.new, h.bel.trans (hb.mono h.bel.size)⟩
/-- From row to row: nothing else was written. -/
structure GrTo (W : World) (a : Option Addr) (W' : World) (a' : Option Addr) : Prop where
  mod : Mod (fun k => blk a = some k) W W'
  new : ∀ k, blk a' = some k → blk a = some k ∨ W.heap.size ≤ k
theorem GrTo.refl (W : World) (a : Option Addr) : GrTo W a W a := ⟨Mod.refl _ _, fun _ h => .inl h⟩
theorem GrTo.trans {W W' W2 : World} {a a' a2 : Option Addr} (h : GrTo W a W' a') (k : GrTo W' a' W2 a2) : GrTo W a W2 a2 :=
  ⟨h.mod.trans k.mod h.new, fun i hi => by
    rcases k.new i hi with h1 | h1
    · exact h.new i h1
    · exact .inr (Nat.le_trans h.mod.size h1)⟩
theorem GrTo.below {W W' W2 : World} {a a' : Option Addr} (h : GrTo W a W' a') (hb : Below W'.heap.size W' W2) : GrTo W a W2 a' := ⟨h.mod.after hb, h.new⟩
theorem GrTo.ahead {W W' W2 : World} {a a' : Option Addr} (hb : Below W.heap.size W W') (h : GrTo W' a W2 a') : GrTo W a W2 a' :=
  ⟨(Mod.of_below (fun k => blk a = some k) hb).trans h.mod (fun k hk => .inl hk), fun k hk => by
    rcases h.new k hk with h1 | h1
    · exact .inl h1
    · exact .inr (Nat.le_trans hb.size h1)⟩

theorem Gr.push {w W : World} {a : Option Addr} {n c : Nat} {bs : List Nat} (h : Gr w W a n c bs) (hn : n ≤ 1000000000) (y : Nat) :
    ∃ a' c' W', (∀ ty, (Builtin.append_ #[31, 31] ty #[.slice a n c, .slice (some ⟨W.heap.size, 0, none⟩) 1 1]).run Tryd.prog (W.alloc (.cells #[.int .u8 (y : Int)] 5)) = .ok (.slice a' (n + 1) c') W') ∧ Gr w W' a' (n + 1) c' (bs ++ [y]) ∧ GrTo W a W' a' := by
  obtain ⟨a', c', W', k1, k2, k3, k4⟩ := push_any Tryd.underlying31 info_u8 rfl (by omega) h.row (by omega) [.int .u8 (y : Int)] rfl (bCells_one [y])
  refine ⟨a', c', W', k1, ⟨?_, fun k hk => ?_, h.bel.trans (k3.below (B := w.heap.size) h.bel.size (fun k _ hk => h.new k hk))⟩, ⟨k3, k4⟩⟩
  · rw [← bCells_app]
    exact k2
  · rcases k4 k hk with h1 | h1
    · exact h.new k h1
    · have := h.bel.size
      omega
theorem Gr.app {w W : World} {a : Option Addr} {n c : Nat} {bs : List Nat} (h : Gr w W a n c bs) (hn : n ≤ 1000000000) {a2 : Option Addr} {c2 m : Nat} {ms : List Nat} (hm : Rd W a2 (bCells ms)) (hl : ms.length = m) (hml : m ≤ 1000000000) :
    ∃ a' c' W', (∀ ty, (Builtin.append_ #[31, 31] ty #[.slice a n c, .slice a2 m c2]).run Tryd.prog W = .ok (.slice a' (n + m) c') W') ∧ Gr w W' a' (n + m) c' (bs ++ ms) ∧ GrTo W a W' a' := by
  obtain ⟨i, k1, k2, k3, k4⟩ := info_parts info_u8
  have hs : Src Tryd.prog 1 31 (.slice a2 m c2) m (bCells ms) W := Rd.src hm Tryd.underlying31 (by rw [bCells_len]; omega) (by omega) (bCells_one ms)
  obtain ⟨a', c', W', m1, m2, m3, m4, _⟩ := run_append_row (P := Tryd.prog) _ 31 5 i _ 1 1 Tryd.underlying31 k1 k2 k3 k4 rfl h.row _ m _ hs (by unfold maxLen; omega) (by omega)
  refine ⟨a', c', W', m1, ⟨?_, fun k hk => ?_, h.bel.trans (m3.below (B := w.heap.size) h.bel.size (fun k _ hk => h.new k hk))⟩, ⟨m3, m4⟩⟩
  · rw [← bCells_app]
    exact m2
  · rcases m4 k hk with h1 | h1
    · exact h.new k h1
    · have := h.bel.size
      omega

/-- append onto a row that has no room. -/
theorem run_append_full {P : Program} (w : World) (t e : TypeId) (i : TypeInfo) (z : Value) (size bytes : Nat) (ht : P.underlying t = some (.slice e)) (hi : P.info? e = some i) (hz : i.zero = some z)
    (hsize : i.size = size) (hby : i.bytes = bytes) (hzs : z.cells.size = size)
    {a : Addr} {n : Nat} {xs : List Value} (hR : Rd w (some a) xs) (hl : xs.length = n * size) (x : Value) (m : Nat) (hm : 0 < m) (news : List Value) (hs : Src P size t x m news w)
    (h63 : n + m ≤ maxLen) (hbytes : (n + m) * bytes ≤ 140737488355328) :
    ∃ cap' w', (∀ ty, (Builtin.append_ #[t, t] ty #[.slice (some a) n n, x]).run P w = .ok (.slice (some ⟨w.heap.size, 0, none⟩) (n + m) cap') w') ∧ Row w' e size (some ⟨w.heap.size, 0, none⟩) (n + m) cap' (xs ++ news) ∧ Below w.heap.size w w' := by
  subst hsize
  have hnl := hs.newsLen
  have hold : (Builtin.firstCells i.size n (.slice (some a) n n)).run P w.drew = .ok xs.toArray w.drew := by
    refine run_firstCells_some _ _ _ _ _ _ _ hl (fun j v hj => ?_)
    obtain ⟨b, o, h2, h3⟩ := hR j v hj
    cases h2
    rw [addr_add]
    exact h3
  have hg := fun ty => run_append_grow_src (P := P) w t t ty e i z ht hi hz (some a) n n xs hold x m news hs (by omega) (by unfold maxLen at h63; omega) (growslice_fits (by omega) (by rw [hby]; exact hbytes))
  refine ⟨_, _, hg, ?_, ?_⟩
  · have hcap : n + m ≤ grownCap w (n + m) n e ∧ grownCap w (n + m) n e ≤ maxLen := ⟨grownCap_ge w (n + m) n e, grownCap_le_maxLen w (n + m) n e h63⟩
    refine ⟨by rw [List.length_append, hl, hnl, Nat.add_mul], hcap.1, hcap.2, .inr ⟨_, _, rfl, heap_alloc_new _ _, ?_, ?_⟩⟩
    · simp [size_zeroCells, hzs, hl, hnl]
      rw [← Nat.add_mul, ← Nat.add_mul]
      exact Nat.mul_le_mul_right _ (by omega)
    · simp only [Array.toList_append]
      rw [List.take_append_of_le_length (by simp [hl, hnl, Nat.add_mul]), List.take_of_length_le (by simp [hl, hnl, Nat.add_mul])]
  · exact ((Below.refl _ w).drew).trans (below_al w.drew _)

/-- One byte behind bytes that have no room. -/
theorem Gr.first {w W : World} {a : Addr} {n : Nat} {bs : List Nat} (hR : Rd W (some a) (bCells bs)) (hl : bs.length = n) (hn : n ≤ 1000000000) (hb : Below w.heap.size w W) (y : Nat) :
    ∃ a' c' W', (∀ ty, (Builtin.append_ #[31, 31] ty #[.slice (some a) n n, .slice (some ⟨W.heap.size, 0, none⟩) 1 1]).run Tryd.prog (W.alloc (.cells #[.int .u8 (y : Int)] 5)) = .ok (.slice a' (n + 1) c') W') ∧ Gr w W' a' (n + 1) c' (bs ++ [y]) := by
  obtain ⟨i, k1, k2, k3, k4⟩ := info_parts info_u8
  have hb1 := below_al W (.cells #[.int .u8 (y : Int)] 5)
  have hh := heap_alloc_new W (.cells #[.int .u8 (y : Int)] 5)
  have hs : Src Tryd.prog 1 31 (.slice (some ⟨W.heap.size, 0, none⟩) 1 1) 1 (bCells [y]) (W.alloc (.cells #[.int .u8 (y : Int)] 5)) := by
    refine Src.ofSlice _ Tryd.underlying31 _ _ _ _ rfl (fun j u hj => ?_) (bCells_one [y])
    rw [addr_add, cell_of_row _ _ _ _ _ _ hh, Nat.zero_add]
    simpa [bCells] using hj
  obtain ⟨c', W', m1, m2, m3⟩ := run_append_full (P := Tryd.prog) _ 31 5 i _ 1 1 Tryd.underlying31 k1 k2 k3 k4 rfl (n := n) (hR.below hb1) (by rw [bCells_len]; omega) _ 1 (by omega) _ hs (by unfold maxLen; omega) (by omega)
  refine ⟨_, c', W', m1, ⟨?_, fun k hk => ?_, hb.trans ((hb1.trans (m3.mono hb1.size)).mono hb.size)⟩⟩
  · rw [← bCells_app]
    exact m2
  · exact Nat.le_trans hb.size (Nat.le_trans hb1.size (Nat.le_of_eq (Option.some.inj hk)))

theorem numB_snoc (k v : Nat) : numB (k + 1) v = numB k v ++ [v / 2 ^ (8 * k) % 256] := by
  unfold numB
  rw [List.range_succ]
  simp

set_option maxRecDepth 100000 in
set_option maxHeartbeats 1000000 in
theorem written_any {w W : World} {a : Option Addr} {n c : Nat} {bs : List Nat} (h : Gr w W a n c bs) (hn : n ≤ 900000000) (v k : Nat) (hk : k ≤ 8) :
    Calls Tryd.prog 36 #[.slice a n c, .int .u64 (v : Int), .int .i64 (k : Int)] W fun e W' => ∃ a' c', e = .returned (.slice a' (n + k) c') ∧ Gr w W' a' (n + k) c' (bs ++ numB k v) ∧ GrTo W a W' a' := by
  have H := hd h
  clear h
  go_enter Tryd.func36, Tryd.ntmps36
  go_wp2_with fail
  go_loopg [0, 7, 9, 10, 11, 12, 13, 14, 15, 16, 17, 18, 19, 20] k (fun g v0 v7 v9 v10 v11 v12 v13 v14 v15 v16 v17 v18 v19 v20 wr => ∃ (j : Nat) (a' : Option Addr) (c' : Nat), j + g = k ∧ v9 = .int .i64 (j : Int) ∧ v0 = .slice a' (n + j) c' ∧ Hid (Gr w wr a' (n + j) c' (bs ++ numB j v) ∧ GrTo W a wr a'))
  case atStart => exact ⟨0, a, c, by omega, by go_num, rfl, hd ⟨by simpa [numB] using H.out, GrTo.refl W a⟩⟩
  case round =>
    obtain ⟨j, a', c', hj, rfl, rfl, HG⟩ := hrel
    by_cases h0 : gk = 0
    · subst h0
      obtain rfl : j = k := by omega
      go_wp2_with fail
      go_ret
      exact ⟨a', c', rfl, HG.out⟩
    · have hlt : (j : Int) < (k : Int) := by omega
      obtain ⟨a2, c2, w2, hap, hg2, ht2⟩ := HG.out.1.push (by omega) (v / 2 ^ (8 * j) % 256)
      rw [List.append_assoc, ← numB_snoc] at hg2
      have HY : Hid ((v / 2 ^ (8 * j) % 256 : Nat) = v / 2 ^ (8 * j) % 256) := hd rfl
      replace hg2 := hd (And.intro hg2 (HG.out.2.trans ht2))
      clear ht2 HG
      have ey : (v : Int) / 2 ^ (8 * j) % 256 = ((v / 2 ^ (8 * j) % 256 : Nat) : Int) := by simp
      generalize v / 2 ^ (8 * j) % 256 = y at *
      replace hap := hd hap
      clear HY
      go_wp2_with (at_builtin; refine wpList_append_run rfl _ _ _ rfl _ _ _ _ rfl rfl hap.out ?_; clear hap)
      go_roundg (gk - 1)
      case rel => exact ⟨j + 1, a2, c2, by omega, by go_num, rfl, hg2⟩
      case measure => omega

set_option maxRecDepth 100000 in
set_option maxHeartbeats 1000000 in
theorem dnumber_any {w W : World} {a : Option Addr} {n c : Nat} {bs : List Nat} (h : Gr w W a n c bs) (hn : n ≤ 900000000) (v k : Nat) (hk : k ≤ 8) :
    Calls Tryd.prog 38 #[.slice a n c, .int .u64 (v : Int), .int .i64 (k : Int)] W fun e W' => ∃ a' c', e = .returned (.slice a' (n + k) c') ∧ Gr w W' a' (n + k) c' (bs ++ numB k v) ∧ GrTo W a W' a' := by
  have H := hd h
  clear h
  go_enter Tryd.func38, Tryd.ntmps38
  go_wp2_with fail
  go_loopg [0, 7, 8, 9, 10, 11, 12, 13, 14, 15, 16, 17, 18, 19, 20] k (fun g v0 v7 v8 v9 v10 v11 v12 v13 v14 v15 v16 v17 v18 v19 v20 wr => ∃ (j : Nat) (a' : Option Addr) (c' : Nat), j + g = k ∧ v7 = .int .i64 (j : Int) ∧ v0 = .slice a' (n + j) c' ∧ Hid (Gr w wr a' (n + j) c' (bs ++ numB j v) ∧ GrTo W a wr a'))
  case atStart => exact ⟨0, a, c, by omega, by go_num, rfl, hd ⟨by simpa [numB] using H.out, GrTo.refl W a⟩⟩
  case round =>
    obtain ⟨j, a', c', hj, rfl, rfl, HG⟩ := hrel
    by_cases h0 : gk = 0
    · subst h0
      obtain rfl : j = k := by omega
      go_wp2_with fail
      go_ret
      exact ⟨a', c', rfl, HG.out⟩
    · have hlt : (j : Int) < (k : Int) := by omega
      obtain ⟨a2, c2, w2, hap, hg2, ht2⟩ := HG.out.1.push (by omega) (v / 2 ^ (8 * j) % 256)
      rw [List.append_assoc, ← numB_snoc] at hg2
      have HY : Hid ((v / 2 ^ (8 * j) % 256 : Nat) = v / 2 ^ (8 * j) % 256) := hd rfl
      replace hg2 := hd (And.intro hg2 (HG.out.2.trans ht2))
      clear ht2 HG
      have ey : (v : Int) / 2 ^ (8 * j) % 256 = ((v / 2 ^ (8 * j) % 256 : Nat) : Int) := by simp
      generalize v / 2 ^ (8 * j) % 256 = y at *
      replace hap := hd hap
      clear HY
      go_wp2_with (at_builtin; refine wpList_append_run rfl _ _ _ rfl _ _ _ _ rfl rfl hap.out ?_; clear hap)
      go_roundg (gk - 1)
      case rel => exact ⟨j + 1, a2, c2, by omega, by go_num, rfl, hg2⟩
      case measure => omega
end Go.Proofs.YtmjokinagbpihaaDoor
