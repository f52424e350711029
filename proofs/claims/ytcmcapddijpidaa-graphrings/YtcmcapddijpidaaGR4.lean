/- The law's own comparisons, where both lists are alike; pairs in a list of the law's own. -/
import Derived.Test.YtcmcapddijpidaaGR3
import Derived.ChangeKeysEq
namespace Go.Proofs.Ytcmcapddijpidaa
open Go.RowKit Go.Maps

theorem info3 : (Try.prog.info? 3).isSome = true := by kernel_rfl
theorem cells3 : Try.prog.cellsOf 3 = 1 := by kernel_rfl
theorem part_int (xs : Array Value) (i : Nat) (v : Int) (h : xs[i]? = some (.int .i64 v)) (W : World) : (part 3 xs i).run Try.prog W = .ok (.int .i64 v) W := by
  unfold part
  simp [go_sem, h]
theorem eqItems_self (d : Nat) (xs : Array Value) (W : World) : ∀ is : List Nat, (∀ i ∈ is, ∃ v : Int, xs[i]? = some (.int .i64 v)) → (Op.eqItems (d + 1) 3 1 xs xs is).run Try.prog W = .ok true W
  | [], _ => by simp [Op.eqItems]
  | i :: is, h => by
    obtain ⟨v, hv⟩ := h i (by simp)
    have ih := eqItems_self d xs W is (fun j hj => h j (by simp [hj]))
    simp only [Op.eqItems, Sem.run_bind, Nat.mul_one, part_int xs i v hv, Result.andThen_ok, run_equalIn_int W d 3 .i64 .i64 v v Try.underlying3, beq_self_eq_true]
    simpa using ih
theorem eq_pair (x y : Int) (W : World) : (Op.equalIn 10000 24 (.agg #[.int .i64 x, .int .i64 y]) (.agg #[.int .i64 x, .int .i64 y])).run Try.prog W = .ok true W := by
  obtain ⟨i, hi⟩ := Option.isSome_iff_exists.1 info3
  rw [show 10000 = 9999 + 1 from rfl, run_equalIn_array W 9999 _ _ Try.underlying24 hi, cells3]
  refine eqItems_self 9998 _ W _ (fun j hj => ?_)
  have hj' : j < 2 := List.mem_range.1 hj
  have h : j = 0 ∨ j = 1 := by omega
  rcases h with rfl | rfl <;> exact ⟨_, rfl⟩
set_option maxRecDepth 100000 in
set_option maxHeartbeats 4000000 in
theorem ints_yes {w : World} {a b : Option Addr} {n ca cb : Nat} {l : List Int} (hA : Rd w a (iC l)) (hB : Rd w b (iC l)) (hN : Hid (l.length = n)) (h9 : n ≤ 9000000000) :
    Calls Try.prog 8 #[.slice a n ca, .slice b n cb] w fun x w' => x = .returned (.bool true) ∧ Below w.heap.size w w' := by
  have HA := hd hA
  have HB := hd hB
  have hnn : ((n : Int) != (n : Int)) = false := by simp
  clear hA hB
  go_enter Try.func8, Try.ntmps8
  go_wp2_with fail
  go_loopg [5, 11, 12, 13, 14, 15, 16, 17, 18, 19, 20, 21, 22, 23, 24, 25] n (fun k v5 v11 v12 v13 v14 v15 v16 v17 v18 v19 v20 v21 v22 v23 v24 v25 wr => ∃ i : Nat, i + k = n ∧ v5 = .int .i64 (i : Int) ∧ Hid (Below w.heap.size w wr))
  case atStart => exact ⟨0, by omega, by go_num, hd (Below.refl _ w)⟩
  case round =>
    obtain ⟨i, hik, rfl, HX⟩ := hrel
    by_cases h0 : gk = 0
    · subst h0
      obtain rfl : i = n := by omega
      go_wp2_with fail
      go_ret
      exact ⟨rfl, HX.out⟩
    · have hlt : i < n := by omega
      obtain ⟨g1, o1, rfl, c1⟩ := rd_num (HA.out.below HX.out) i (by rw [hN.out]; exact hlt)
      obtain ⟨g2, o2, rfl, c2⟩ := rd_num (HB.out.below HX.out) i (by rw [hN.out]; exact hlt)
      obtain ⟨x, hx⟩ : ∃ x, Hid (l.getD i 0 = x) := ⟨_, rfl⟩
      rw [hx.out] at c1 c2
      have hxx : (x != x) = false := by simp
      have HY : Hid (Below w.heap.size w wr.drew) := hd (HX.out.trans (((Below.refl _ wr).drew).mono HX.out.size))
      clear HX hx h0
      go_upto_region 6 with fail
      go_region
      all_goals go_wp2_with fail
      all_goals go_roundg (gk - 1)
      all_goals first | exact ⟨i + 1, by omega, by go_num, HY⟩ | omega
set_option maxRecDepth 100000 in
set_option maxHeartbeats 4000000 in
theorem edges_yes {w : World} {a b : Option Addr} {n ca cb : Nat} {l : Es} (hA : Rd w a (wC l)) (hB : Rd w b (wC l)) (hN : Hid (l.length = n)) (h9 : n ≤ 9000000000) :
    Calls Try.prog 9 #[.slice a n ca, .slice b n cb] w fun x w' => x = .returned (.bool true) ∧ Below w.heap.size w w' := by
  have HA := hd hA
  have HB := hd hB
  have hnn : ((n : Int) != (n : Int)) = false := by simp
  clear hA hB
  go_enter Try.func9, Try.ntmps9
  go_wp2_with fail
  go_loopg [5, 11, 12, 13, 14, 15, 16, 17, 18, 19, 20, 21, 22, 23, 24, 25] n (fun k v5 v11 v12 v13 v14 v15 v16 v17 v18 v19 v20 v21 v22 v23 v24 v25 wr => ∃ i : Nat, i + k = n ∧ v5 = .int .i64 (i : Int) ∧ Hid (Below w.heap.size w wr))
  case atStart => exact ⟨0, by omega, by go_num, hd (Below.refl _ w)⟩
  case round =>
    obtain ⟨i, hik, rfl, HX⟩ := hrel
    by_cases h0 : gk = 0
    · subst h0
      obtain rfl : i = n := by omega
      go_wp2_with fail
      go_ret
      exact ⟨rfl, HX.out⟩
    · have hlt : i < n := by omega
      obtain ⟨g1, o1, rfl, c1, d1⟩ := rd_pair (HA.out.below HX.out) i (by rw [hN.out]; exact hlt)
      obtain ⟨g2, o2, rfl, c2, d2⟩ := rd_pair (HB.out.below HX.out) i (by rw [hN.out]; exact hlt)
      obtain ⟨x, y, hx⟩ : ∃ x y, Hid (l.getD i (0, 0) = (x, y)) := ⟨_, _, rfl⟩
      rw [hx.out] at c1 c2 d1 d2
      have heq := fun W => eq_pair x y W
      have HY : Hid (Below w.heap.size w wr.drew) := hd (HX.out.trans (((Below.refl _ wr).drew).mono HX.out.size))
      clear HX hx h0
      go_upto_region 6 with fail
      go_region
      all_goals go_wp2_with fail
      all_goals go_roundg (gk - 1)
      all_goals first | exact ⟨i + 1, by omega, by go_num, HY⟩ | omega
/-- A list of pairs of the call's own. -/
structure OwnE (w wr : World) (a : Option Addr) (c : Nat) (l : Es) : Prop where
  bel : Below w.heap.size w wr
  row : Row wr 24 2 a l.length c (wC l)
  new : ∀ k, blk a = some k → w.heap.size ≤ k
theorem OwnE.below {w wr w2 : World} {a : Option Addr} {c : Nat} {l : Es} (h : OwnE w wr a c l) (hb : Below wr.heap.size wr w2) : OwnE w w2 a c l := ⟨h.bel.trans (hb.mono h.bel.size), h.row.below hb, h.new⟩
theorem OwnE.empty {w : World} : OwnE w (w.alloc (.cells #[] 24)) (some ⟨w.heap.size, 0, none⟩) 0 [] :=
  ⟨below_al w _, row_new (cs := #[]) (heap_alloc_new w _) rfl (Nat.zero_le _), fun k hk => by cases hk; exact Nat.le_refl _⟩
theorem OwnE.push {w wr : World} {a : Option Addr} {c : Nat} {l : Es} (h : OwnE w wr a c l) (hl : l.length < 1000000000) (x y : Int) :
    ∃ a' c' w', (∀ ty, (Builtin.append_ #[23, 23] ty #[.slice a l.length c, .slice (some ⟨wr.heap.size, 0, none⟩) 1 1]).run Try.prog (wr.alloc (.cells #[.int .i64 x, .int .i64 y] 24)) = .ok (.slice a' (l.length + 1) c') w') ∧ OwnE w w' a' c' (l ++ [(x, y)]) := by
  obtain ⟨a', c', w', m1, m2, m3, m4⟩ := push_any (T := 23) Try.underlying23 infoE rfl h.row (by unfold maxLen; omega) (by omega) [.int .i64 x, .int .i64 y] rfl (by simp [Value.oneCell'])
  refine ⟨a', c', w', m1, h.bel.trans (m3.below h.bel.size (fun k _ hk => h.new k hk)), by rw [wC_app, List.length_append]; exact m2, fun k hk => ?_⟩
  rcases m4 k hk with h1 | h1
  · exact h.new k h1
  · exact Nat.le_trans h.bel.size h1
theorem wC_one (l : Es) : ∀ u ∈ wC l, u.oneCell' = true := by
  intro u hu
  simp only [wC, List.mem_flatMap] at hu
  obtain ⟨x, _, hx⟩ := hu
  simp only [wP, List.mem_cons, List.not_mem_nil, or_false] at hx
  rcases hx with rfl | rfl <;> rfl
/-- append(make(.., 0, n + 2), e...) -/
theorem copy_all {w : World} {a : Option Addr} {n c : Nat} {e : Es} {zs : Array Value} (hR : Rd w a (wC e)) (hn : e.length = n) (h8 : n ≤ 1000000000) (hz : zs.size = (n + 2) * 2) :
    ∃ a' c' w', (∀ ty, (Builtin.append_ #[23, 23] ty #[.slice (some ⟨w.heap.size, 0, none⟩) 0 (n + 2), .slice a n c]).run Try.prog (w.alloc (.cells zs 24)) = .ok (.slice a' n c') w') ∧ OwnE w w' a' c' e := by
  obtain ⟨i, k1, k2, k3, k4⟩ := info_parts infoE
  have hb := below_al w (.cells zs 24)
  have hrow : Row (w.alloc (.cells zs 24)) 24 2 (some ⟨w.heap.size, 0, none⟩) 0 (n + 2) [] :=
    ⟨rfl, by omega, by unfold maxLen; omega, .inr ⟨_, zs, rfl, heap_alloc_new w _, by omega, by simp⟩⟩
  have hs : Src Try.prog 2 23 (.slice a n c) n (wC e) (w.alloc (.cells zs 24)) := (hR.below hb).src Try.underlying23 (by rw [wC_len, hn]) (by decide) (wC_one e)
  obtain ⟨a', c', w', m1, m2, m3, m4, _⟩ := run_append_row (P := Try.prog) _ 23 24 i _ 2 16 Try.underlying23 k1 k2 k3 k4 rfl hrow _ n _ hs (by unfold maxLen; omega) (by omega)
  rw [Nat.zero_add] at m1 m2
  refine ⟨a', c', w', m1, hb.trans ?_, by rw [hn]; exact m2, fun k hk => ?_⟩
  · exact m3.below hb.size (fun k _ hk => by cases hk; exact Nat.le_refl _)
  · rcases m4 k hk with h | h
    · cases h; exact Nat.le_refl _
    · have := hb.size; omega
/-- Two more pairs behind them. -/
theorem OwnE.two {w wr : World} {a : Option Addr} {c n : Nat} {l : Es} (h : OwnE w wr a c l) (hn : l.length = n) (hl : n < 1000000000) :
    ∃ a' c' w', (∀ ty, (Builtin.append_ #[23, 23] ty #[.slice a n c, .slice (some ⟨wr.heap.size, 0, none⟩) 2 2]).run Try.prog (wr.alloc (.cells #[.int .i64 1, .int .i64 2, .int .i64 2, .int .i64 1] 24)) = .ok (.slice a' (n + 2) c') w') ∧ OwnE w w' a' c' (l ++ [(1, 2), (2, 1)]) ∧ ∃ g, a' = some ⟨g, 0, none⟩ ∧ n + 2 ≤ c' := by
  subst hn
  obtain ⟨i, k1, k2, k3, k4⟩ := info_parts infoE
  have hb := below_al wr (.cells #[.int .i64 1, .int .i64 2, .int .i64 2, .int .i64 1] 24)
  have hs : Src Try.prog 2 23 (.slice (some ⟨wr.heap.size, 0, none⟩) 2 2) 2 (wC [(1, 2), (2, 1)]) (wr.alloc (.cells #[.int .i64 1, .int .i64 2, .int .i64 2, .int .i64 1] 24)) :=
    (rd_new (cs := #[.int .i64 1, .int .i64 2, .int .i64 2, .int .i64 1])).src Try.underlying23 rfl (by decide) (wC_one [(1, 2), (2, 1)])
  obtain ⟨a', c', w', m1, m2, m3, m4, _⟩ := run_append_row (P := Try.prog) _ 23 24 i _ 2 16 Try.underlying23 k1 k2 k3 k4 rfl (h.row.below hb) _ 2 _ hs (by unfold maxLen; omega) (by omega)
  have hM : Mod (fun k => blk a = some k) wr w' := (Mod.of_below _ hb).trans m3 (fun _ h => .inl h)
  obtain ⟨g, hg⟩ : ∃ g, a' = some ⟨g, 0, none⟩ := m2.head (by omega)
  refine ⟨a', c', w', m1, ⟨h.bel.trans (hM.below h.bel.size (fun k _ hk => h.new k hk)), by rw [wC_app, List.length_append]; exact m2, fun k hk => ?_⟩, g, hg, m2.capLe⟩
  rcases m4 k hk with h1 | h1
  · exact h.new k h1
  · have := h.bel.size; have := hb.size; omega
end Go.Proofs.Ytcmcapddijpidaa
