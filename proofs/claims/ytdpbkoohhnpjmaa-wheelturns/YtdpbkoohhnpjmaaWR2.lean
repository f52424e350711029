/- The document's side: Clear, Set. -/
import Derived.Test.YtdpbkoohhnpjmaaWR1
namespace Go.Proofs.Ytdpbkoohhnpjmaa
open Go.RowKit Go.Sort Go.Shelf Go.Maps

/-- 'append([]T{}, l...)': a list in new memory. -/
theorem clone_sz (T e : TypeId) (z : Value) (size bytes : Nat) (hu : Try.prog.underlying T = some (.slice e)) (hinfo : (Try.prog.info? e).map (fun i => (i.zero, i.size, i.bytes)) = some (some z, size, bytes)) (hzs : z.cells.size = size) (hsz : 0 < size)
    {w : World} {a : Option Addr} {n c : Nat} {xs : List Value} (hR : Rd w a xs) (hl : xs.length = n * size) (h1 : ∀ u ∈ xs, u.oneCell' = true) (hn : n * bytes ≤ 140737488355328) (hm : n ≤ maxLen) :
    ∃ a' c' w', (∀ ty, (Builtin.append_ #[T, T] ty #[.slice (some ⟨w.heap.size, 0, none⟩) 0 0, .slice a n c]).run Try.prog (w.alloc (.cells #[] e)) = .ok (.slice a' n c') w') ∧ Row w' e size a' n c' xs ∧ Below w.heap.size w w' ∧ (∀ k, blk a' = some k → w.heap.size ≤ k) := by
  obtain ⟨i, i1, i2, i3, i4⟩ := info_parts hinfo
  have hb := below_al w (.cells #[] e)
  have h0 : Row (w.alloc (.cells #[] e)) e size (some ⟨w.heap.size, 0, none⟩) 0 0 [] := by
    have := row_new (size := size) (n := 0) (heap_alloc_new w (.cells #[] e)) (by simp) (Nat.zero_le _)
    simpa using this
  obtain ⟨a', c', w', k1, k2, k3, k4, _⟩ := run_append_row (P := Try.prog) _ T e i z size bytes hu i1 i2 i3 i4 hzs h0 (.slice a n c) n xs ((hR.below hb).src hu hl hsz h1) (by omega) (by rw [Nat.zero_add]; exact hn)
  rw [Nat.zero_add] at k1 k2
  rw [List.nil_append] at k2
  refine ⟨a', c', w', k1, k2, hb.trans (k3.below (by simp) (fun k _ hk => by cases hk; exact Nat.le_refl _)), fun k hk => ?_⟩
  rcases k4 k hk with h | h
  · cases h; exact Nat.le_refl _
  · have := hb.size; omega
theorem rd_take {w : World} {a : Option Addr} {xs : List Value} (h : Rd w a xs) (k : Nat) : Rd w a (xs.take k) := fun j u hj => by
  rw [List.getElem?_take] at hj
  split at hj
  · exact h j u hj
  · cases hj

theorem rd_drop {w : World} {g : Nat} {xs : List Value} (h : Rd w (some ⟨g, 0, none⟩) xs) (k : Nat) : Rd w (some ⟨g, k, none⟩) (xs.drop k) := fun j u hj => by
  rw [List.getElem?_drop] at hj
  obtain ⟨b, o, e, hc⟩ := h _ u hj
  cases e
  rw [Nat.zero_add] at hc
  exact ⟨g, k, rfl, hc⟩

/-- More of a list onto a row. -/
theorem join_o {w : World} {a : Option Addr} {n c : Nat} {xs : List Value} (hR : Row w 61 2 a n c xs) {a2 : Option Addr} {m c2 : Nat} {ys : List Value} (hS : Rd w a2 ys) (hl : ys.length = m * 2) (h1 : ∀ u ∈ ys, u.oneCell' = true) (hn : n + m ≤ 8796093022208) :
    ∃ a' c' w', (∀ ty, (Builtin.append_ #[28, 28] ty #[.slice a n c, .slice a2 m c2]).run Try.prog w = .ok (.slice a' (n + m) c') w') ∧
      Row w' 61 2 a' (n + m) c' (xs ++ ys) ∧ Mod (fun k => blk a = some k) w w' ∧ (∀ k, blk a' = some k → blk a = some k ∨ w.heap.size ≤ k) := by
  obtain ⟨i, i1, i2, i3, i4⟩ := info_parts infoO
  obtain ⟨a', c', w', k1, k2, k3, k4, _⟩ := run_append_row (P := Try.prog) _ 28 61 i _ 2 16 Try.underlying28 i1 i2 i3 i4 rfl hR (.slice a2 m c2) m ys (hS.src Try.underlying28 hl (by decide) h1) (by unfold maxLen; omega) (by omega)
  exact ⟨a', c', w', k1, k2, k3, k4⟩

theorem clr_erase {L : List Th} (h : GoodW L) {i : Nat} (hi : i < L.length) : clr (tAt L i).2 L = L.eraseIdx i := by
  have hn := h.nod
  clear h
  induction L generalizing i with
  | nil => exact absurd hi (Nat.not_lt_zero _)
  | cons x r ih =>
    rw [List.pairwise_cons] at hn
    cases i with
    | zero =>
      show (x :: r).filter (fun t => t.2 != x.2) = r
      rw [List.filter_cons_of_neg (by simp), List.filter_eq_self]
      intro t ht
      have := hn.1 t ht
      simp
      omega
    | succ i =>
      have hi' : i < r.length := by simpa using hi
      have hne : x.2 ≠ (tAt r i).2 := hn.1 _ (tAt_mem hi')
      show (x :: r).filter (fun t => t.2 != (tAt r i).2) = x :: r.eraseIdx i
      rw [List.filter_cons_of_pos (by simpa using hne)]
      congr 1
      exact ih hi' hn.2
theorem sv_erase (L : List Th) (i : Nat) : sv (L.eraseIdx i) = (sv L).eraseIdx i := by
  unfold sv
  rw [List.eraseIdx_eq_take_drop_succ, List.eraseIdx_eq_take_drop_succ, List.map_append, List.map_take, List.map_drop]

set_option maxRecDepth 100000 in
set_option maxHeartbeats 2000000 in
theorem rclear_any {w : World} {b : Nat} {F : Nat → Prop} {L : List Th} (h : Rf w b F L) (hG : GoodW L) (hn : L.length ≤ 8796093022208) (id : Int) :
    Calls Try.prog 18 #[.pointer (some ⟨b, 0, none⟩), .int .i64 id] w fun e w' => e = .returned (.bool (isSet id L)) ∧ RfOut w b F (clr id L) w' := by
  have HRf := hd h
  obtain ⟨a, c2, h, hF, -⟩ := h
  have hp := place_any h hn id
  obtain ⟨B, hB⟩ : ∃ B, Hid (isSet id L = B) := ⟨_, rfl⟩
  obtain ⟨M, hM⟩ : ∃ M, Hid (clr id L = M) := ⟨_, rfl⟩
  rw [hB.out, hM.out]
  have HH := hd h
  have HF := hd hF
  have HG := hd hG
  clear h hF hG
  go_enter Try.func18, Try.ntmps18
  go_upto_region 2 with (go_at_call 26; refine hp.mono ?_; rintro e1 w ⟨r, rfl, hP, rfl⟩)
  rcases hP with ⟨hs, rfl⟩ | ⟨i, hil, rfl, hid⟩
  · obtain rfl : B = false := by rw [← hB.out, hs]
    obtain rfl : M = L := by rw [← hM.out, clr_none hs]
    go_wp2_with fail
    go_ret
    exact ⟨rfl, RfOut.same HRf.out (below_same w)⟩
  · obtain rfl : B = true := by rw [← hB.out]; exact isSet_iff.2 ⟨_, tAt_mem hil, hid⟩
    obtain rfl : M = L.eraseIdx i := by rw [← hM.out, ← hid, clr_erase HG.out hil]
    have h := HH.out
    obtain ⟨g, rfl⟩ := h.row.head (by omega)
    have hcap := h.row.capLe
    have hcm : c2 ≤ 9223372036854775807 := by have := h.row.2.2.1; unfold maxLen at this; omega
    have hrl : (wC (sv L)).length = L.length * 2 := by rw [wC_len, sv_len]
    obtain ⟨a', c', w2, hap, R2, b2, B2⟩ := clone_sz 28 61 _ 2 16 Try.underlying28 infoO rfl (by decide) (c := c2) (rd_take h.row.rd (i * 2)) (by rw [List.length_take, hrl]; omega : ((wC (sv L)).take (i * 2)).length = i * 2) (fun u hu => wC_one _ u (List.mem_of_mem_take hu)) (by omega) (by unfold maxLen; omega)
    have h2 := h.below b2
    have q1 := (h.below (below_al w (.cells #[] 61))).c0
    have q2 := h2.c0
    have hjoin : ∃ a'' c'' w3, (∀ ty, (Builtin.append_ #[28, 28] ty #[.slice a' i c', .slice (if c2 = i + 1 then some ⟨g, 0, none⟩ else some ⟨g, (i + 1) * 2, none⟩) (L.length - (i + 1)) (c2 - (i + 1))]).run Try.prog w2 = .ok (.slice a'' (L.length - 1) c'') w3) ∧
        Row w3 61 2 a'' (L.length - 1) c'' (wC (sv (L.eraseIdx i))) ∧ Mod (fun k => blk a' = some k) w2 w3 ∧ (∀ k, blk a'' = some k → blk a' = some k ∨ w2.heap.size ≤ k) := by
      have hE : wC (sv (L.eraseIdx i)) = (wC (sv L)).take (i * 2) ++ (wC (sv L)).drop ((i + 1) * 2) := by rw [sv_erase, ← erase_eq, wC_app, wC_take, wC_drop]
      have hsum : i + (L.length - (i + 1)) = L.length - 1 := by omega
      rw [hE]
      have hld : ((wC (sv L)).drop ((i + 1) * 2)).length = (L.length - (i + 1)) * 2 := by rw [List.length_drop, hrl]; omega
      have h1d : ∀ u ∈ (wC (sv L)).drop ((i + 1) * 2), u.oneCell' = true := fun u hu => wC_one _ u (List.mem_of_mem_drop hu)
      by_cases hc : c2 = i + 1
      · rw [if_pos hc]
        have hz : (wC (sv L)).drop ((i + 1) * 2) = [] := List.eq_nil_of_length_eq_zero (by rw [hld]; omega)
        obtain ⟨a'', c'', w3, k1, k2, k3, k4⟩ := join_o R2 (a2 := some ⟨g, 0, none⟩) (c2 := c2 - (i + 1)) (ys := (wC (sv L)).drop ((i + 1) * 2)) (by rw [hz]; intro j u hj; simp at hj) hld h1d (by omega)
        rw [hsum] at k1 k2
        exact ⟨a'', c'', w3, k1, k2, k3, k4⟩
      · rw [if_neg hc]
        obtain ⟨a'', c'', w3, k1, k2, k3, k4⟩ := join_o R2 (a2 := some ⟨g, (i + 1) * 2, none⟩) (c2 := c2 - (i + 1)) (rd_drop h2.row.rd ((i + 1) * 2)) hld h1d (by omega)
        rw [hsum] at k1 k2
        exact ⟨a'', c'', w3, k1, k2, k3, k4⟩
    obtain ⟨a'', c'', w3, hap3, R3, M3, B3⟩ := hjoin
    have hnb : ∀ k, blk a' = some k → k ≠ b := fun k hk e => by have := B2 k hk; have := h.blt; omega
    have M3' : Mod (fun k => w.heap.size ≤ k) w2 w3 := M3.mono (fun k _ hk => B2 k hk)
    have z1 : w3.cell? ⟨b, 0, none⟩ = some (.slice (some ⟨g, 0, none⟩) L.length c2) := (M3.cell (p := ⟨b, 0, none⟩) h2.blt (fun e => hnb b e rfl)).trans h2.c0
    have z2 : w3.frozen? ⟨b, 0, none⟩ = false := (M3.frozen (p := ⟨b, 0, none⟩) h2.blt (fun e => hnb b e rfl)).trans h2.free
    have b3 : Below w.heap.size w w3 := b2.trans (M3'.below b2.size (fun k _ h => h))
    have B3' : ∀ k, blk a'' = some k → w.heap.size ≤ k := fun k hk => by
      rcases B3 k hk with h | h
      · exact B2 k h
      · exact Nat.le_trans b2.size h
    obtain ⟨N, hN⟩ : ∃ N, Hid (L.length = N) := ⟨_, rfl⟩
    have HE : Hid (RfOut w b F (L.eraseIdx i) (w3.setCell ⟨b, 0, none⟩ (.slice a'' (N - 1) c''))) := hd (by
      rw [← hN.out]
      have hP : RAt (w3.setCell ⟨b, 0, none⟩ (.slice a'' (L.length - 1) c'')) b a'' c'' (L.eraseIdx i) := RAt.lay (h.below b3).obj R3 (by rw [List.length_eraseIdx, if_pos hil]) (fun k hk e => by have := B3' k hk; have := h.blt; omega)
      exact RfOut.mk' HF.out ((Mod.of_below (rfp b (some ⟨g, 0, none⟩)) b3).setCell (.inl (.inl rfl)) _) hP (fun k hk => .inr (B3' k hk)))
    rw [hN.out] at q1 q2 z1 hap3 hil hcap hn
    have i1 : (i : Int) ≤ (c2 : Int) := by omega
    have i2 : (i : Int) + 1 ≤ (N : Int) := by omega
    have i3 : (N : Int) ≤ (c2 : Int) := by omega
    have i4 : c2 ≠ 0 := by omega
    have i5 : decide ((i : Int) < 0) = false := by simp
    replace hap := hd hap
    replace hap3 := hd hap3
    clear R2 R3 M3 M3' B2 B3 B3' b2 b3 HF h h2 hid hp hM hB HRf HH hrl
    go_wp2_with (first | (at_builtin; first | (refine wpList_append_run rfl _ _ _ rfl _ _ _ _ rfl rfl hap.out ?_; clear hap) | (refine wpList_append_run rfl _ _ _ rfl _ _ _ _ rfl rfl hap3.out ?_)))
    all_goals go_ret
    all_goals exact ⟨rfl, HE.out⟩

theorem rset_no {w : World} {b : Nat} {F : Nat → Prop} {L : List Th} (h : Rf w b F L) {id due : Int} (hbad : id < 0 ∨ due < 0) :
    Calls Try.prog 17 #[.pointer (some ⟨b, 0, none⟩), .int .i64 id, .int .i64 due] w fun e w' => e = .returned (.int .i64 1) ∧ RfOut w b F L w' := by
  have HH := hd h
  clear h
  by_cases h1 : id < 0
  · clear hbad
    go_enter Try.func17, Try.ntmps17
    go_wp2
    go_ret
    exact ⟨rfl, RfOut.same HH.out (below_same w)⟩
  · have h2 : due < 0 := by omega
    have h1' : decide (id < 0) = false := by simpa using h1
    clear hbad h1
    go_enter Try.func17, Try.ntmps17
    go_wp2
    go_ret
    exact ⟨rfl, RfOut.same HH.out (below_same w)⟩

set_option maxRecDepth 100000 in
set_option maxHeartbeats 1000000 in
theorem rset_any {w : World} {b : Nat} {F : Nat → Prop} {L : List Th} (h : Rf w b F L) (hG : GoodW L) (hn : L.length ≤ 4398046511104) {id due : Int} (hi : 0 ≤ id) (hdu : 0 ≤ due) :
    Calls Try.prog 17 #[.pointer (some ⟨b, 0, none⟩), .int .i64 id, .int .i64 due] w fun e w' => e = .returned (.int .i64 0) ∧ RfOut w b F (setA id due L) w' := by
  have i0 : decide (id < 0) = false := by simpa using hi
  have i1 : decide (due < 0) = false := by simpa using hdu
  have hcl := rclear_any h hG (by omega) id
  have hlc : (clr id L).length ≤ 4398046511104 := Nat.le_trans (List.length_filter_le _ _) hn
  clear h hG
  go_enter Try.func17, Try.ntmps17
  go_upto_region 4 with (go_at_call 18; refine hcl.mono ?_; rintro e1 w1 ⟨rfl, hM1, F1, hR1, hF1⟩)
  obtain ⟨a, c, hR, hFa, hFl⟩ := hR1
  have q0 := hR.c0
  have q1 := hR.free
  obtain ⟨n, hN⟩ : ∃ n, Hid ((clr id L).length = n) := ⟨_, rfl⟩
  obtain ⟨a', c', w8, hap, R8, M8, B8⟩ := push_any (w := w1) (T := 28) (e := 61) (z := .agg #[.int .i64 0, .int .i64 0]) (size := 2) (bytes := 16) Try.underlying28 infoO rfl hR.row (by unfold maxLen; omega) (by omega) [.int .i64 id, .int .i64 due] rfl (by simp [Value.oneCell'])
  rw [hN.out] at hap R8 q0
  have hnb : ¬ blk a = some b := fun e => hR.ne b e rfl
  have z1 : w8.cell? ⟨b, 0, none⟩ = some (.slice a n c) := (M8.cell (p := ⟨b, 0, none⟩) hR.blt hnb).trans q0
  have z2 : w8.frozen? ⟨b, 0, none⟩ = false := (M8.frozen (p := ⟨b, 0, none⟩) hR.blt hnb).trans q1
  have HE : Hid (RfOut w b F (setA id due L) (w8.setCell ⟨b, 0, none⟩ (.slice a' (n + 1) c'))) := hd (by
    have hobj : w8.heap[b]? = some (.cells #[.slice a (clr id L).length c] 30 (0, 0)) := by rw [M8.block b hR.blt hnb]; exact hR.obj
    have hP : RAt (w8.setCell ⟨b, 0, none⟩ (.slice a' (n + 1) c')) b a' c' (setA id due L) := RAt.lay hobj (by unfold setA; rw [sv_app, wC_app]; exact R8) (by unfold setA; simp [hN.out]) (fun k hk e => by
      rcases B8 k hk with h | h
      · exact hR.ne k h e
      · have := hR.blt; omega)
    have ho : RfOut w1 b F1 (setA id due L) (w8.setCell ⟨b, 0, none⟩ (.slice a' (n + 1) c')) := RfOut.mk' hFa ((M8.mono (fun k _ hk => .inr hk)).setCell (.inl (.inl rfl)) _) hP B8
    obtain ⟨k1, F2, k2, k3⟩ := ho
    exact ⟨hM1.trans k1 hF1, F2, k2, fun i hi => by
      rcases k3 i hi with h4 | h4
      · exact hF1 i h4
      · exact .inr (Nat.le_trans hM1.size h4)⟩)
  replace hap := hd hap
  clear R8 M8 B8 hR hM1 hF1 hFa hFl hnb
  go_wp2_with (first | (at_builtin; refine wpList_append_run rfl _ _ _ rfl _ _ _ _ rfl rfl hap.out ?_))
  go_ret
  exact ⟨rfl, HE.out⟩
end Go.Proofs.Ytdpbkoohhnpjmaa
