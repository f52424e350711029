/- A wheel and the document's beside it; step: Set, Clear, Due. -/
import Derived.Test.YtdpbkoohhnpjmaaWT1
import Derived.Test.YtdpbkoohhnpjmaaWM2
namespace Go.Proofs.Ytdpbkoohhnpjmaa
open Go.RowKit Go.Sort Go.Shelf Go.Maps

/-- The program's wheel at b1, the document's at b2, L set in both; they share nothing. -/
def Pr (w : World) (b1 b2 : Nat) (F : Nat → Prop) (L : List Th) : Prop := ∃ F1 F2, Wh w b1 F1 L ∧ Rf w b2 F2 L ∧ (∀ k, F1 k → ¬ F2 k) ∧ (∀ k, F1 k ∨ F2 k → F k) ∧ ∀ k, F k → k < w.heap.size
def PrOut (w : World) (b1 b2 : Nat) (F : Nat → Prop) (L' : List Th) (w' : World) : Prop := Mod F w w' ∧ ∃ F', Pr w' b1 b2 F' L' ∧ ∀ k, F' k → F k ∨ w.heap.size ≤ k
theorem Pr.mod {w w' : World} {b1 b2 : Nat} {F S : Nat → Prop} {L : List Th} (h : Pr w b1 b2 F L) (hm : Mod S w w') (hn : ∀ k, F k → ¬ S k) : Pr w' b1 b2 F L := by
  obtain ⟨F1, F2, h1, h2, h3, h4, h5⟩ := h
  exact ⟨F1, F2, h1.mod hm (fun k hk => hn k (h4 k (.inl hk))), h2.mod hm (fun k hk => hn k (h4 k (.inr hk))), h3, h4, fun k hk => Nat.lt_of_lt_of_le (h5 k hk) hm.size⟩
theorem Pr.below {w w' : World} {b1 b2 : Nat} {F : Nat → Prop} {L : List Th} (h : Pr w b1 b2 F L) (hb : Below w.heap.size w w') : Pr w' b1 b2 F L := h.mod (Mod.of_below (fun _ => False) hb) (fun _ _ h => h)
theorem Pr.lt {w : World} {b1 b2 : Nat} {F : Nat → Prop} {L : List Th} (h : Pr w b1 b2 F L) : ∀ k, F k → k < w.heap.size := by
  obtain ⟨F1, F2, h1, h2, h3, h4, h5⟩ := h
  exact h5
theorem Pr.good {w : World} {b1 b2 : Nat} {F : Nat → Prop} {L : List Th} (h : Pr w b1 b2 F L) : GoodW L := by
  obtain ⟨F1, F2, h1, h2, h3, h4, h5⟩ := h
  exact h1.good
theorem PrOut.same {w w' : World} {b1 b2 : Nat} {F : Nat → Prop} {L : List Th} (h : Pr w b1 b2 F L) (hb : Below w.heap.size w w') : PrOut w b1 b2 F L w' := ⟨Mod.of_below _ hb, F, h.below hb, fun _ h => .inl h⟩
theorem PrOut.below {w w1 w2 : World} {b1 b2 : Nat} {F : Nat → Prop} {L : List Th} (h : PrOut w b1 b2 F L w1) (hb : Below w1.heap.size w1 w2) : PrOut w b1 b2 F L w2 := by
  obtain ⟨h1, F', h2, h3⟩ := h
  exact ⟨h1.after hb, F', h2.below hb, h3⟩
theorem PrOut.ofBelow {w w1 w2 : World} {b1 b2 : Nat} {F : Nat → Prop} {L : List Th} (hb : Below w.heap.size w w1) (h : PrOut w1 b1 b2 F L w2) : PrOut w b1 b2 F L w2 := by
  obtain ⟨h1, F', h2, h3⟩ := h
  refine ⟨(Mod.of_below F hb).trans h1 (fun _ h => .inl h), F', h2, fun k hk => ?_⟩
  rcases h3 k hk with h | h
  · exact .inl h
  · exact .inr (Nat.le_trans hb.size h)
/-- What is changed besides is of neither. -/
theorem PrOut.other {w w1 w2 : World} {b1 b2 : Nat} {F S : Nat → Prop} {L : List Th} (h : PrOut w b1 b2 F L w1) (hm : Mod S w1 w2) (hs : ∀ k, S k → w.heap.size ≤ k) (hp : ∀ F', Pr w1 b1 b2 F' L → (∀ k, F' k → F k ∨ w.heap.size ≤ k) → Pr w2 b1 b2 F' L) : PrOut w b1 b2 F L w2 := by
  obtain ⟨h1, F', h2, h3⟩ := h
  exact ⟨h1.trans hm (fun k hk => .inr (hs k hk)), F', hp F' h2 h3, h3⟩
/-- One call of each. -/
theorem PrOut.join {w w1 w2 w3 : World} {b1 b2 : Nat} {F F1 F2 : Nat → Prop} {L' : List Th} (hd : ∀ k, F1 k → ¬ F2 k) (hF : ∀ k, F1 k ∨ F2 k → F k) (hl : ∀ k, F k → k < w.heap.size) (h1 : WhOut w b1 F1 L' w1) (hb : Below w1.heap.size w1 w2) (h2 : RfOut w2 b2 F2 L' w3) : PrOut w b1 b2 F L' w3 := by
  obtain ⟨m1, G1, g1, n1⟩ := h1
  obtain ⟨m2, G2, g2, n2⟩ := h2
  have hsz : w.heap.size ≤ w2.heap.size := Nat.le_trans m1.size hb.size
  have hG1 : ∀ k, G1 k → ¬ F2 k := fun k hk hf => by
    rcases n1 k hk with h | h
    · exact hd k h hf
    · have := hl k (hF k (.inr hf)); omega
  have g1' : Wh w3 b1 G1 L' := (g1.below hb).mod m2 hG1
  refine ⟨((m1.mono (fun k _ hk => hF k (.inl hk))).after hb).trans m2 (fun k hk => .inl (hF k (.inr hk))), fun k => G1 k ∨ G2 k, ⟨G1, G2, g1', g2, fun k hk hk2 => ?_, fun _ h => h, fun k hk => ?_⟩, fun k hk => ?_⟩
  · rcases n2 k hk2 with h | h
    · exact hG1 k hk h
    · have h3 := g1.lt k hk
      have h4 := hb.size
      omega
  · rcases hk with hk | hk
    · exact g1'.lt k hk
    · obtain ⟨_, _, _, _, h5⟩ := g2
      exact h5 k hk
  · rcases hk with hk | hk
    · rcases n1 k hk with h | h
      · exact .inl (hF k (.inl h))
      · exact .inr h
    · rcases n2 k hk with h | h
      · exact .inl (hF k (.inr h))
      · exact .inr (Nat.le_trans hsz h)
/-- The document's wheel beside the program's call. -/
theorem WhOut.keepR {w w1 : World} {b1 b2 : Nat} {F1 F2 : Nat → Prop} {L L' : List Th} (h : WhOut w b1 F1 L' w1) (hR : Rf w b2 F2 L) (hd : ∀ k, F1 k → ¬ F2 k) : Rf w1 b2 F2 L := hR.mod h.1 (fun k hk hf => hd k hf hk)

/-- A box of the call's own beside the two. -/
structure OpBox (w : World) (G : Nat) (kd on id at' : Int) : Prop where
  obj : w.heap[G]? = some (.cells #[.int .i64 kd, .int .i64 on, .int .i64 id, .int .i64 at'] 33 (0, 0))
theorem OpBox.cells {w : World} {G : Nat} {kd on id at' : Int} (h : OpBox w G kd on id at') : w.cell? ⟨G, 0, none⟩ = some (.int .i64 kd) ∧ w.cell? ⟨G, 1, none⟩ = some (.int .i64 on) ∧ w.cell? ⟨G, 2, none⟩ = some (.int .i64 id) ∧ w.cell? ⟨G, 3, none⟩ = some (.int .i64 at') := by
  refine ⟨?_, ?_, ?_, ?_⟩ <;> (rw [cell_of_row _ _ _ _ _ _ h.obj]; rfl)
theorem OpBox.lt {w : World} {G : Nat} {kd on id at' : Int} (h : OpBox w G kd on id at') : G < w.heap.size := (Array.getElem?_eq_some_iff.1 h.obj).1
theorem OpBox.mod {w w' : World} {S : Nat → Prop} {G : Nat} {kd on id at' : Int} (h : OpBox w G kd on id at') (hm : Mod S w w') (hn : ¬ S G) : OpBox w' G kd on id at' := ⟨by rw [hm.block G h.lt hn]; exact h.obj⟩
theorem OpBox.below {w w' : World} {G : Nat} {kd on id at' : Int} (h : OpBox w G kd on id at') (hb : Below w.heap.size w w') : OpBox w' G kd on id at' := h.mod (Mod.of_below (fun _ => False) hb) (fun h => h)

/-- What step leaves. -/
def StepOut (w : World) (b1 b2 : Nat) (F : Nat → Prop) (L : List Th) (w' : World) : Prop := ∃ L', L'.length ≤ L.length + 1 ∧ PrOut w b1 b2 F L' w'

set_option maxRecDepth 100000 in
set_option maxHeartbeats 2000000 in
theorem step_set {w : World} {b1 b2 : Nat} {F : Nat → Prop} {L : List Th} (h : Pr w b1 b2 F L) (hL : L.length < 4398046511104) {on id at' : Int} (hi : Fit64 id) (ha : Fit64 at') :
    Calls Try.prog 8 #[.pointer (some ⟨b1, 0, none⟩), .pointer (some ⟨b2, 0, none⟩), .agg #[.int .i64 2, .int .i64 on, .int .i64 id, .int .i64 at']] w fun e w' => e = .returned (.bool true) ∧ StepOut w b1 b2 F L w' := by
  -- what both answer
  have key : ∃ (r : Int) (L' : List Th), L'.length ≤ L.length + 1 ∧ (∀ (W : World) F1, Wh W b1 F1 L → Calls Try.prog 13 #[.pointer (some ⟨b1, 0, none⟩), .int .i64 id, .int .i64 at'] W fun e w' => e = .returned (.int .i64 r) ∧ WhOut W b1 F1 L' w') ∧ (∀ (W : World) F2, Rf W b2 F2 L → Calls Try.prog 17 #[.pointer (some ⟨b2, 0, none⟩), .int .i64 id, .int .i64 at'] W fun e w' => e = .returned (.int .i64 r) ∧ RfOut W b2 F2 L' w') := by
    by_cases hb : 0 ≤ id ∧ 0 ≤ at'
    · exact ⟨0, setA id at' L, by rw [set_len h.good]; split <;> omega, fun W F1 hW => set_right hW ⟨⟨hb.2, ha.2⟩, hb.1, hi.2⟩ hL, fun W F2 hW => rset_any hW h.good (by omega) hb.1 hb.2⟩
    · exact ⟨1, L, by omega, fun W F1 hW => set_wrong hW (by omega), fun W F2 hW => rset_no hW (by omega)⟩
  obtain ⟨r, L', hlen, hset, hrset⟩ := key
  have HL := hd hlen
  have HH := hd h
  have hbx : OpBox (w.alloc (.cells #[.int .i64 2, .int .i64 on, .int .i64 id, .int .i64 at'] 33)) w.heap.size 2 on id at' := ⟨heap_alloc_new w _⟩
  have hb0 := below_al w (.cells #[.int .i64 2, .int .i64 on, .int .i64 id, .int .i64 at'] 33)
  have hlt := h.lt
  clear h hlen
  go_enter Try.func8, Try.ntmps8
  go_upto_region 3 with fail
  obtain ⟨w0, hw0⟩ : ∃ W, Hid (w.alloc (.cells #[.int .i64 2, .int .i64 on, .int .i64 id, .int .i64 at'] 33) = W) := ⟨_, rfl⟩
  obtain ⟨G, hGn⟩ : ∃ G, Hid (w.heap.size = G) := ⟨_, rfl⟩
  rw [hw0.out] at hbx hb0 ⊢
  rw [hGn.out] at hbx ⊢
  obtain ⟨F1, F2, hW, hRf, hdis, hFF, hFl⟩ := HH.out.below hb0
  have hGF : ¬ F G := fun hf => by have := hlt G hf; have := hGn.out; omega
  have hs1 := hset w0.drew F1 (hW.below ((Below.refl _ w0).drew))
  obtain ⟨q0, q1, q2, q3⟩ := hbx.cells
  have HK : Hid (∀ w1, WhOut w0.drew b1 F1 L' w1 → (w1.cell? ⟨G, 2, none⟩ = some (.int .i64 id) ∧ w1.cell? ⟨G, 3, none⟩ = some (.int .i64 at')) ∧ Rf w1 b2 F2 L) := hd (fun w1 ho =>
    have hc := (((hbx.below ((Below.refl _ w0).drew)).mod ho.1 (fun hf => hGF (hFF G (.inl hf)))).cells)
    ⟨⟨hc.2.2.1, hc.2.2.2⟩, ho.keepR (hRf.below ((Below.refl _ w0).drew)) hdis⟩)
  have HJ : Hid (∀ w1 w2, WhOut w0.drew b1 F1 L' w1 → RfOut w1 b2 F2 L' w2 → (w2.cell? ⟨G, 2, none⟩ = some (.int .i64 id) ∧ w2.cell? ⟨G, 3, none⟩ = some (.int .i64 at')) ∧ StepOut w b1 b2 F L w2) := hd (fun w1 w2 ho hr =>
    have hc := ((((hbx.below ((Below.refl _ w0).drew)).mod ho.1 (fun hf => hGF (hFF G (.inl hf)))).mod hr.1 (fun hf => hGF (hFF G (.inr hf)))).cells)
    ⟨⟨hc.2.2.1, hc.2.2.2⟩, L', HL.out, PrOut.ofBelow (Below.trans hb0 (Below.mono ((Below.refl _ w0).drew) hb0.size)) (PrOut.join hdis hFF hFl ho (below_same _) hr)⟩)
  clear hW hRf hset hbx hlt hGF HH hw0
  go_region_held3 (fun w' => w'.cell? ⟨G, 2, none⟩ = some (.int .i64 id) ∧ w'.cell? ⟨G, 3, none⟩ = some (.int .i64 at')) (go_keep)
    (first
      | (go_at_call 13; refine hs1.mono ?_; rintro e1 w1 ⟨rfl, ho1⟩
         obtain ⟨⟨y0, y1⟩, hR1⟩ := HK.out w1 ho1
         have hs2 := hrset w1 F2 hR1
         have HO1 := hd ho1
         clear ho1 hR1)
      | (go_at_call 17; refine hs2.mono ?_; rintro e2 w2 ⟨rfl, ho2⟩
         obtain ⟨⟨z0, z1⟩, hE2⟩ := HJ.out w1 w2 HO1.out ho2
         have HE2 := hd hE2
         clear ho2 hE2))
  go_wp2_with fail
  go_ret
  exact ⟨by simp, HE2.out⟩
end Go.Proofs.Ytdpbkoohhnpjmaa
