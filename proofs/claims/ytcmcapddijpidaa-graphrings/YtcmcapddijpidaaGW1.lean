/- Which edges count: counting (the program's), Next (the document's). -/
import Derived.Test.YtcmcapddijpidaaGW0
namespace Go.Proofs.Ytcmcapddijpidaa
open Go.RowKit Go.Maps

abbrev Es := List (Int × Int)
def FitE (e : Es) : Prop := ∀ x ∈ e, Fit64 x.1 ∧ Fit64 x.2
theorem rd_pair {w : World} {a : Option Addr} {e : Es} (h : Rd w a (wC e)) (i : Nat) (hi : i < e.length) : ∃ g o, a = some ⟨g, o, none⟩ ∧ w.cell? ⟨g, o + i * 2, none⟩ = some (.int .i64 (e.getD i (0, 0)).1) ∧ w.cell? ⟨g, o + i * 2 + 1, none⟩ = some (.int .i64 (e.getD i (0, 0)).2) := by
  obtain ⟨h1, h2⟩ := wC_at e i hi
  obtain ⟨g, o, e1, c1⟩ := h _ _ h1
  obtain ⟨g2, o2, e2, c2⟩ := h _ _ h2
  subst e1
  cases e2
  exact ⟨g, o, rfl, c1, by rw [Nat.add_assoc]; exact c2⟩
theorem rd_num {w : World} {a : Option Addr} {l : List Int} (h : Rd w a (iC l)) (i : Nat) (hi : i < l.length) : ∃ g o, a = some ⟨g, o, none⟩ ∧ w.cell? ⟨g, o + i, none⟩ = some (.int .i64 (l.getD i 0)) := h _ _ (iC_at l i hi 0)
theorem e_mem {e : Es} {i : Nat} (hi : i < e.length) : e.getD i (0, 0) ∈ e := by
  rw [List.getD_eq_getElem?_getD, List.getElem?_eq_getElem hi]
  exact List.getElem_mem hi
theorem e_take {e : Es} {i : Nat} (hi : i < e.length) : e.take (i + 1) = e.take i ++ [e.getD i (0, 0)] := by
  rw [List.take_succ_eq_append_getElem hi, List.getD_eq_getElem?_getD, List.getElem?_eq_getElem hi]; rfl
/-- The first i edges are counted. -/
structure NxI (w wr : World) (m : Nat) (e : Es) (i : Nat) : Prop where
  bel : Below w.heap.size w wr
  mge : w.heap.size ≤ m
  map : ∃ c, c ≤ i ∧ MapAt wr m (nxs (e.take i)) c
section
variable {w wr : World} {m : Nat} {e : Es} {i : Nat}
theorem NxI.start (e : Es) (w : World) : NxI w (w.alloc (.map #[] 0)) w.heap.size e 0 := ⟨below_al w _, Nat.le_refl _, 0, Nat.le_refl _, MapAt.new w⟩
theorem NxI.below {w2 : World} (h : NxI w wr m e i) (hb : Below wr.heap.size wr w2) : NxI w w2 m e i := by
  obtain ⟨c, h1, h2⟩ := h.map
  exact ⟨h.bel.trans (hb.mono h.bel.size), h.mge, c, h1, h2.below hb⟩
theorem NxI.look (h : NxI w wr m e i) {p : Int} (hp : Fit64 p) : (Instr.lookup 29 (.map (some m)) (.int .i64 p) true).run Try.prog wr = .ok (.tuple #[.int .i64 ((nxs (e.take i) p).getD 0), .bool (nxs (e.take i) p).isSome]) wr := by
  obtain ⟨c, h1, h2⟩ := h.map
  exact h2.look hp
theorem NxI.stay (h : NxI w wr m e i) (hi : i < e.length) {p q l : Int} (hx : e.getD i (0, 0) = (p, q)) (hs : nxs (e.take i) p = some l) (hl : ¬ q < l) : NxI w wr m e (i + 1) := by
  obtain ⟨c, h1, h2⟩ := h.map
  refine ⟨h.bel, h.mge, c, by omega, h2.congr (fun y => ?_)⟩
  rw [e_take hi, nxs_snoc, hx]
  unfold nxStep
  rw [if_neg]
  simp [hs, hl]
theorem NxI.put (h : NxI w wr m e i) (hi : i < e.length) (hn : i < 6000000000000) {p q : Int} (hx : e.getD i (0, 0) = (p, q)) (hp : Fit64 p) (hq : Fit64 q) (hc : (nxs (e.take i) p).isNone = true ∨ q < (nxs (e.take i) p).getD 0) :
    ∃ w2, (Instr.mapUpdate 29 (.map (some m)) (.int .i64 p) (.int .i64 q)).run Try.prog wr = .ok () w2 ∧ NxI w w2 m e (i + 1) := by
  obtain ⟨c, h1, h2⟩ := h.map
  obtain ⟨w2, r1, r2, r3⟩ := h2.store (p := p) (v := q) hp hq (by omega)
  refine ⟨w2, r1, h.bel.trans (r2.below h.bel.size (fun k _ e => by rw [e]; exact h.mge)), h.mge, _, ?_, r3.congr (fun y => ?_)⟩
  · split <;> omega
  · rw [e_take hi, nxs_snoc, hx]
    unfold nxStep
    rw [if_pos hc]
    rfl
end
/-- What counting and Next answer. -/
def NxOut (w : World) (e : Es) (x : Ending) (w' : World) : Prop := ∃ m c, x = .returned (.map (some m)) ∧ w.heap.size ≤ m ∧ c ≤ e.length ∧ Below w.heap.size w w' ∧ MapAt w' m (nxs e) c
theorem NxI.end {w wr : World} {m : Nat} {e : Es} (h : NxI w wr m e e.length) : NxOut w e (.returned (.map (some m))) wr := by
  obtain ⟨c, h1, h2⟩ := h.map
  rw [List.take_of_length_le (Nat.le_refl _)] at h2
  exact ⟨m, c, rfl, h.mge, h1, h.bel, h2⟩

set_option maxRecDepth 100000 in
set_option maxHeartbeats 4000000 in
theorem rnext_any {w : World} {a : Option Addr} {n cp : Nat} {e : Es} (hR : Rd w a (wC e)) (hF : FitE e) (hN : Hid (e.length = n)) (h8 : n < 6000000000000) :
    Calls Try.prog 10 #[.slice a n cp] w fun x w' => NxOut w e x w' := by
  have hmm : ∀ W : World, (Instr.makeMap 29 none).run Try.prog W = .ok (.map (some W.heap.size)) (W.alloc (.map #[] 0)) := fun W => rfl
  have HS := hd (NxI.start e w)
  have HR := hd hR
  have HF := hd hF
  clear hR hF
  go_enter Try.func10, Try.ntmps10
  go_upto_region 2 with fail
  obtain ⟨m, hm⟩ : ∃ m, Hid (w.heap.size = m) := ⟨_, rfl⟩
  obtain ⟨w1, hw1⟩ : ∃ W, Hid (w.alloc (.map #[] 0) = W) := ⟨_, rfl⟩
  have HS2 : Hid (NxI w w1 m e 0) := hd (by rw [← hw1.out, ← hm.out]; exact HS.out)
  try simp only [hm.out, hw1.out]
  clear HS hmm hm hw1
  go_wp2_with fail
  go_loopg [4, 5, 6, 8, 9, 10, 11, 12, 13, 14, 15, 16, 17, 18, 19, 20, 21, 22, 23, 24, 25, 26, 27, 28, 29, 30, 31, 32, 33, 34, 35, 36, 37, 38, 39, 40, 41, 42, 43, 44, 45] n (fun k v4 v5 v6 v8 v9 v10 v11 v12 v13 v14 v15 v16 v17 v18 v19 v20 v21 v22 v23 v24 v25 v26 v27 v28 v29 v30 v31 v32 v33 v34 v35 v36 v37 v38 v39 v40 v41 v42 v43 v44 v45 wr => ∃ i : Nat, i + k = n ∧ v4 = .int .i64 (i : Int) ∧ Hid (NxI w wr m e i))
  case atStart => exact ⟨0, by omega, by go_num, HS2⟩
  case round =>
    obtain ⟨i, hik, rfl, HX⟩ := hrel
    clear HS2
    by_cases h0 : gk = 0
    · subst h0
      have hi : i = n := by omega
      subst hi
      have HE := hd (NxI.end (by rw [hN.out]; exact HX.out))
      clear HX hik HR HF
      go_wp2_with fail
      go_ret
      exact HE.out
    · have hlt : i < n := by omega
      have hie : i < e.length := by rw [hN.out]; exact hlt
      obtain ⟨p, q, hx⟩ : ∃ p q, Hid (e.getD i (0, 0) = (p, q)) := ⟨_, _, rfl⟩
      obtain ⟨g, o, rfl, c1, c2⟩ := rd_pair (HR.out.mod (S := fun _ => False) (fun _ _ _ h => h) (Mod.of_below _ HX.out.bel)) i hie
      rw [hx.out] at c1 c2
      have hp : Fit64 p := by have := (HF.out _ (e_mem hie)).1; rw [hx.out] at this; exact this
      have hq : Fit64 q := by have := (HF.out _ (e_mem hie)).2; rw [hx.out] at this; exact this
      have hlk := HX.out.look hp
      cases hs : nxs (e.take i) p with
      | none =>
        obtain ⟨w2, hst, hI⟩ := (HX.out.below ((Below.refl _ wr).drew)).put hie (by omega) hx.out hp hq (.inl (by rw [hs]; rfl))
        rw [hs] at hlk
        have HE := hd hI
        clear HX hx hp hq hs h0 hie hI
        go_upto_region 7 with fail
        go_region
        all_goals go_wp2_with fail
        all_goals go_roundg (gk - 1)
        all_goals first | exact ⟨i + 1, by omega, by go_num, HE⟩ | omega
      | some l =>
        rw [hs] at hlk
        by_cases hl : q < l
        · obtain ⟨w2, hst, hI⟩ := (HX.out.below ((Below.refl _ wr).drew)).put hie (by omega) hx.out hp hq (.inr (by rw [hs]; exact hl))
          have hl' : decide (q < l) = true := by simpa using hl
          have HE := hd hI
          clear HX hx hp hq hs h0 hie hI hl
          go_upto_region 7 with fail
          go_region
          all_goals go_wp2_with fail
          all_goals go_roundg (gk - 1)
          all_goals first | exact ⟨i + 1, by omega, by go_num, HE⟩ | omega
        · have HE := hd (HX.out.stay hie hx.out hs hl)
          have hl' : decide (q < l) = false := by simpa using hl
          clear HX hx hp hq hs h0 hie hl
          go_wp2_with fail
          go_roundg (gk - 1)
          case rel => exact ⟨i + 1, by omega, by go_num, HE⟩
          case measure => omega
end Go.Proofs.Ytcmcapddijpidaa
