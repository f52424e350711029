/- things.Push, things.Pop; heap.Push, heap.Pop. -/
import Derived.Test.YtdpbkoohhnpjmaaWW6
import Derived.Deep.RegionLaw
namespace Go.Proofs.Ytdpbkoohhnpjmaa
open Go.RowKit Go.Sort Go.Shelf

/-- A wheel's order behind a call: at a', in its old memory or in new memory. -/
structure HpTo (w : World) (b m : Nat) (a : Option Addr) (w' : World) (a' : Option Addr) (c' : Nat) (O' : List Th) : Prop where
  hp : HpAt w' b m a' c' O'
  mod : Mod (fun k => k = b ∨ blk a = some k) w w'
  new : ∀ k, blk a' = some k → blk a = some k ∨ w.heap.size ≤ k
theorem HpTo.trans {w w1 w2 : World} {b m : Nat} {a a1 a2 : Option Addr} {c1 c2 : Nat} {O1 O2 : List Th} (h : HpTo w b m a w1 a1 c1 O1) (k : HpTo w1 b m a1 w2 a2 c2 O2) : HpTo w b m a w2 a2 c2 O2 :=
  ⟨k.hp, h.mod.trans k.mod (fun i hi => by
    rcases hi with rfl | hi
    · exact .inl (.inl rfl)
    · rcases h.new i hi with h1 | h1
      · exact .inl (.inr h1)
      · exact .inr h1), fun i hi => by
    rcases k.new i hi with h1 | h1
    · exact h.new i h1
    · exact .inr (by have := h.mod.size; omega)⟩
theorem HpTo.refl {w : World} {b m : Nat} {a : Option Addr} {c : Nat} {O : List Th} (h : HpAt w b m a c O) : HpTo w b m a w a c O := ⟨h, Mod.refl _ _, fun _ h => .inl h⟩
theorem HpTo.below {w w1 w2 : World} {b m : Nat} {a a1 : Option Addr} {c1 : Nat} {O1 : List Th} (h : HpTo w b m a w1 a1 c1 O1) (hb : Below w1.heap.size w1 w2) : HpTo w b m a w2 a1 c1 O1 := ⟨h.hp.below hb, h.mod.after hb, h.new⟩
theorem HpTo.ofBelow {w w1 w2 : World} {b m : Nat} {a a1 : Option Addr} {c1 : Nat} {O1 : List Th} (hb : Below w.heap.size w w1) (h : HpTo w1 b m a w2 a1 c1 O1) : HpTo w b m a w2 a1 c1 O1 := ⟨h.hp, (Mod.of_below _ hb).trans h.mod (fun _ h => .inl h), fun k hk => by
  rcases h.new k hk with h1 | h1
  · exact .inl h1
  · exact .inr (by have := hb.size; omega)⟩
theorem HpOut.to {w w' : World} {b m : Nat} {a : Option Addr} {c : Nat} {O O' : List Th} (h : HpOut w b m a c O w' O') : HpTo w b m a w' a c O' := ⟨h.hp, h.mod.mono (fun _ _ h => .inr h), fun _ h => .inl h⟩

theorem assertT (t1 t2 : Int) (w : World) : Sem.run Try.prog (Instr.typeAssert (.iface 60 (.agg #[.int .i64 t1, .int .i64 t2])) 20 60 true) w = .ok (.tuple #[.agg #[.int .i64 t1, .int .i64 t2], .bool true]) w := by kernel_rfl
theorem drew_below {w w' : World} (h : Below w.heap.size w w') : Below w.heap.size w w'.drew := h.drew

set_option maxRecDepth 100000 in
set_option maxHeartbeats 1000000 in
theorem tpush_any {w : World} {b m : Nat} {a : Option Addr} {c n : Nat} {O : List Th} (h : HpAt w b m a c O) (hn : O.length = n) (hmax : n < 8796093022208) (t : Th) :
    Calls Try.prog 82 #[.pointer (some ⟨b, 1, none⟩), .iface 60 (.agg #[.int .i64 t.1, .int .i64 t.2])] w fun e w' => e = .returned (.tuple #[]) ∧ ∃ a' c', HpTo w b m a w' a' c' (O ++ [t]) := by
  obtain ⟨t1, t2⟩ := t
  have hcell : Hid (∀ W : World, Below w.heap.size w W → W.cell? ⟨b, 1, none⟩ = some (.slice a n c)) := hd (fun W hb => by rw [hb.cell (p := ⟨b, 1, none⟩) h.blt, ← hn]; exact h.c1)
  have HH := hd h
  have HN := hd hn
  clear h hn
  simp only
  go_enter Try.func82, Try.ntmps82
  have hta := assertT t1 t2 w
  go_upto_region 2 with fail
  obtain ⟨w1, hw1⟩ : ∃ W, Hid (w.alloc (.cells #[.int .i64 t1, .int .i64 t2] 60) = W) := ⟨_, rfl⟩
  have HB1 : Hid (Below w.heap.size w w1) := hd (by rw [← hw1.out]; exact below_al w _)
  have x0 : w1.cell? ⟨w.heap.size, 0, none⟩ = some (.int .i64 t1) := by rw [← hw1.out]; simp
  have x1 : w1.cell? ⟨w.heap.size, 1, none⟩ = some (.int .i64 t2) := by rw [← hw1.out]; simp
  have hsz : w.heap.size < w1.heap.size := by rw [← hw1.out]; simp
  rw [hw1.out]
  obtain ⟨G, hG⟩ : ∃ G, Hid (w.heap.size = G) := ⟨_, rfl⟩
  rw [hG.out] at x0 x1 hsz ⊢
  have hcb := hcell.out w1 HB1.out
  have hH1 := HH.out.below HB1.out
  have hmx : (n + 1) * 16 ≤ 140737488355328 := by omega
  obtain ⟨a', c', w8, hap, R8, M8, B8⟩ := push_any (w := w1.drew) (T := 54) (e := 60) (z := .agg #[.int .i64 0, .int .i64 0]) (size := 2) (bytes := 16) Try.underlying54 infoT rfl (hH1.below ((Below.refl _ w1).drew)).row (by rw [HN.out]; unfold maxLen; omega) (by rw [HN.out]; exact hmx) [.int .i64 t1, .int .i64 t2] rfl (by simp [Value.oneCell'])
  rw [HN.out] at hap R8
  have hap : Hid (∀ ty, (Builtin.append_ #[54, 54] ty #[.slice a n c, .slice (some ⟨w1.heap.size, 0, none⟩) 1 1]).run Try.prog (w1.alloc (.cells #[.int .i64 t1, .int .i64 t2] 60)).drew = .ok (.slice a' (n + 1) c') w8) := hd hap
  have hnb : ¬ blk a = some b := fun e => HH.out.ne b e rfl
  have z1 : w8.cell? ⟨b, 1, none⟩ = some (.slice a n c) := by
    rw [M8.cell (p := ⟨b, 1, none⟩) hH1.blt hnb]
    exact hcb
  have z2 : w8.frozen? ⟨b, 1, none⟩ = false := by
    rw [M8.frozen (p := ⟨b, 1, none⟩) hH1.blt hnb]
    exact hH1.free 1
  have y1 : (w1.alloc (.cells #[.int .i64 t1, .int .i64 t2] 60)).cell? ⟨b, 1, none⟩ = some (.slice a n c) := ((below_al w1 _).cell (p := ⟨b, 1, none⟩) hH1.blt).trans hcb
  have HE : Hid (HpTo w b m a (w8.setCell ⟨b, 1, none⟩ (.slice a' (n + 1) c')) a' c' (O ++ [(t1, t2)])) := hd (HpTo.ofBelow HB1.out (by
    have hobj : w8.heap[b]? = some (.cells #[.map (some m), .slice a O.length c] 56 (0, 0)) := by rw [M8.block b hH1.blt hnb]; exact hH1.obj
    have hnew : ∀ k, blk a' = some k → k ≠ b := fun k hk => by
      rcases B8 k hk with h1 | h1
      · exact HH.out.ne k h1
      · have := hH1.blt
        have : w1.drew.heap.size = w1.heap.size := rfl
        omega
    refine ⟨HpAt.lay hobj (by rw [wC_app]; exact R8) (by simp [HN.out]) hnew, ?_, B8⟩
    exact ((Mod.of_below _ ((Below.refl _ w1).drew)).trans M8 (fun k hk => .inl (.inr hk))).setCell (.inl (.inl rfl)) _))
  clear R8 M8 B8 hH1 hnb hmx hta
  go_region_law ((refine step_append_run (by rfl) _ _ _ (by rfl) _ _ _ _ (by rfl) (by rfl) hap.out ?_))
  all_goals go_end0
  all_goals exact ⟨rfl, a', c', HE.out⟩

set_option maxRecDepth 100000 in
set_option maxHeartbeats 1000000 in
theorem hpush_any {w : World} {b m : Nat} {a : Option Addr} {c n : Nat} {O : List Th} (h : HpAt w b m a c O) (hn : O.length = n) (hmax : n < 8796093022208) (hH : Heap (tAt O) n) (t : Th) :
    Calls Try.prog 25 #[.iface 63 (.pointer (some ⟨b, 1, none⟩)), .iface 60 (.agg #[.int .i64 t.1, .int .i64 t.2])] w fun e w' => e = .returned (.tuple #[]) ∧ ∃ a' c' O', HpTo w b m a w' a' c' O' ∧ Heap (tAt O') (n + 1) ∧ O'.length = n + 1 ∧ ∀ x, x ∈ O' ↔ x ∈ O ∨ x = t := by
  have hp := tpush_any h hn hmax t
  have HN := hd hn
  have HH := hd hH
  clear h hn hH
  have mP := mPush ⟨b, 1, none⟩
  have eP := ePush
  have eL := eLen
  go_enter Try.func25, Try.ntmps25
  go_upto_region 1 with (go_at_call 82; refine hp.mono ?_; rintro e1 w1 ⟨rfl, a1, c1, hT⟩)
  clear hp
  have hlen : (O ++ [t]).length = n + 1 := by simp [HN.out]
  have hU := up_any (n := n + 1) (j0 := n) hT.hp hlen (by omega) (UpI.push HH.out (fun i hi => tAt_app_left (by rw [HN.out]; exact hi))) (by omega)
  have hc1 := hT.hp.c1
  rw [hlen] at hc1
  have mL := mLen hc1
  have hle := @tlen_any a1 (n + 1) c1 w1
  have HT := hd hT
  clear hT hlen
  go_wp2_with (first
    | (go_at_call 78; refine hle.mono ?_; rintro e2 w2 ⟨rfl, rfl⟩)
    | (go_at_call 32; refine hU.mono ?_; rintro e3 w3 ⟨rfl, O', hO, hh⟩))
  go_end0
  refine ⟨rfl, a1, c1, O', HT.out.trans hO.to, hh, by rw [hO.len]; simp [HN.out], fun x => (hO.mem x).trans (by simp)⟩

set_option maxRecDepth 100000 in
set_option maxHeartbeats 1000000 in
/-- The last one taken off. -/
theorem tpop_any {w : World} {b m : Nat} {a : Option Addr} {c n : Nat} {O : List Th} (h : HpAt w b m a c O) (hn : O.length = n + 1) (hmax : n < 8796093022208) :
    Calls Try.prog 81 #[.pointer (some ⟨b, 1, none⟩)] w fun e w' => (∃ v, e = .returned v) ∧ HpTo w b m a w' a c (O.take n) := by
  obtain ⟨g, rfl, x0, x1⟩ := row_t h.row n (by omega)
  have hcap : n + 1 ≤ c := by rw [← hn]; exact h.row.capLe
  have hc1 := h.c1
  rw [hn] at hc1
  have hfr := h.free 1
  have HE : Hid (∀ W : World, Below w.heap.size w W → HpTo w b m (some ⟨g, 0, none⟩) (W.setCell ⟨b, 1, none⟩ (.slice (some ⟨g, 0, none⟩) n c)) (some ⟨g, 0, none⟩) c (O.take n)) := hd (fun W hb => by
    have hW := h.below hb
    refine ⟨HpAt.lay hW.obj ?_ (by simp [hn]) hW.ne, (Mod.of_below _ hb).setCell (.inl (.inl rfl)) _, fun _ h => .inl h⟩
    have := hW.row.cut n c (by omega) (by omega) (Nat.le_refl _) (fun e => by cases e)
    rwa [wC_take] at this)
  have hgl := h.lt g rfl
  have hbl := h.blt
  have hgb := h.ne g rfl
  clear h hn
  generalize (tAt O n).1 = t1 at *
  generalize (tAt O n).2 = t2 at *
  go_enter Try.func81, Try.ntmps81
  go_wp2_with fail
  go_ret
  exact ⟨⟨_, rfl⟩, (HE.out w (below_same w)).below (below_al _ _)⟩

theorem pop_mem {O O1 O2 : List Th} {n : Nat} (hl : O.length = n + 1) (h1 : O1 = swL O 0 n) (hm : ∀ x, x ∈ O2 ↔ x ∈ O1) (hl2 : O2.length = n + 1) (hfar : tAt O2 n = tAt O1 n) (x : Th) : x ∈ O → x ∈ O2.take n ∨ x = tAt O 0 := by
  intro hx
  have h2 : x ∈ O2 := by rw [hm, h1, swL_mem (by omega) (by omega)]; exact hx
  obtain ⟨i, hi, e⟩ := mem_tAt h2
  by_cases hin : i < n
  · left
    rw [← e, ← tAt_take hin]
    exact tAt_mem (by simp; omega)
  · right
    have : i = n := by omega
    subst this
    rw [← e, hfar, h1, swL_at (by omega) (by omega)]
    unfold sw
    rw [if_pos rfl]

set_option maxRecDepth 100000 in
set_option maxHeartbeats 1000000 in
theorem hpop_any {w : World} {b m : Nat} {a : Option Addr} {c n : Nat} {O : List Th} (h : HpAt w b m a c O) (hn : O.length = n + 1) (hmax : n < 8796093022208) (hH : Heap (tAt O) (n + 1)) :
    Calls Try.prog 31 #[.iface 63 (.pointer (some ⟨b, 1, none⟩))] w fun e w' => (∃ v, e = .returned v) ∧ ∃ O', HpTo w b m a w' a c O' ∧ Heap (tAt O') n ∧ O'.length = n ∧ (∀ x ∈ O', x ∈ O) ∧ ∀ x ∈ O, x ∈ O' ∨ x = tAt O 0 := by
  have hc1 := h.c1
  rw [hn] at hc1
  have hrow := h.row
  rw [hn] at hrow
  have mL := mLen hc1
  have mS := mSwap hc1
  have hle := @tlen_any a (n + 1) c w
  have hsw := swap_any (i := 0) (j := n) hrow (by omega) (by omega)
  have HN := hd hn
  have HH := hd h
  have HP := hd hH
  clear h hn hH hrow
  have eL := eLen
  have eS := eSwap
  have eP := ePop
  have mP := mPop ⟨b, 1, none⟩
  go_enter Try.func31, Try.ntmps31
  go_upto_region 3 with (first
    | (go_at_call 78; refine hle.mono ?_; rintro e2 w ⟨rfl, rfl⟩)
    | (go_at_call 80; refine hsw.mono ?_; rintro e3 w3 ⟨rfl, r3, m3⟩))
  have h3 : HpOut w b m a c O w3 (swL O 0 n) := (HpOut.refl HH.out).swap r3 m3 HN.out.symm (by omega) (by omega)
  have hl3 : (swL O 0 n).length = n + 1 := by rw [swL_len, HN.out]
  have hdn : DnI (tAt (swL O 0 n)) n 0 := DnI.pop HP.out (fun i h0 hi => by
    rw [swL_at (by rw [HN.out]; omega) (by rw [HN.out]; omega)]
    unfold sw
    rw [if_neg (by omega), if_neg (by omega)])
  have hD := down_any h3.hp hl3 (n := n) (by omega) hdn (by omega)
  have H3 := hd h3
  clear h3 hdn r3 m3 mS hle hsw mL hc1
  go_upto_region 4 with (first | (go_at_call 39; refine hD.mono ?_; rintro e4 w4 ⟨⟨B, rfl⟩, O4, h4, hh4, hf4⟩))
  have hl4 : O4.length = n + 1 := by rw [h4.len, hl3]
  have hT := tpop_any h4.hp hl4 hmax
  have HE : Hid (∀ w5, HpTo w4 b m a w5 a c (O4.take n) → ∃ O', HpTo w b m a w5 a c O' ∧ Heap (tAt O') n ∧ O'.length = n ∧ (∀ x ∈ O', x ∈ O) ∧ ∀ x ∈ O, x ∈ O' ∨ x = tAt O 0) := hd (fun w5 h5 => by
    refine ⟨O4.take n, (H3.out.to.trans h4.to).trans h5, fun k h0 hk => ?_, by simp [hl4], fun x hx => ?_, pop_mem HN.out rfl h4.mem hl4 (hf4 n (Nat.le_refl _))⟩
    · have hp := par_lt h0
      rw [tAt_take hk, tAt_take (by omega)]
      exact hh4 k h0 hk
    · have := List.mem_of_mem_take hx
      rw [h4.mem, swL_mem (by rw [HN.out]; omega) (by rw [HN.out]; omega)] at this
      exact this)
  clear h4 hh4 hf4 hl4 hD H3 hl3
  go_wp2_with (first | (go_at_call 81; refine hT.mono ?_; rintro e5 w5 ⟨⟨v, rfl⟩, h5⟩))
  go_ret
  exact ⟨⟨_, rfl⟩, HE.out _ h5⟩
end Go.Proofs.Ytdpbkoohhnpjmaa
