/- Lay. -/
import Derived.Test.YtdihbbpndijdoaaKWB
namespace Go.Proofs.Ytdihbbpndijdoaa
open Go.RowKit Go.Maps

/-- What can be read of a list of lists. -/
structure RdQ (w : World) (a : Option Addr) (es : List Qe) : Prop where
  row : Rd w a (sC es)
  qs : ∀ i, i < es.length → Rd w (eAt es i).1 (iC (eAt es i).2.2)
theorem RdQ.below {w w' : World} {a : Option Addr} {es : List Qe} (h : RdQ w a es) (hb : Below w.heap.size w w') : RdQ w' a es := ⟨h.row.below hb, fun i hi => (h.qs i hi).below hb⟩
theorem RdQ.at' {w : World} {a : Option Addr} {es : List Qe} (h : RdQ w a es) (i : Nat) (hi : i < es.length) : ∃ g o, a = some ⟨g, o, none⟩ ∧ w.cell? ⟨g, o + i, none⟩ = some (.slice (eAt es i).1 (eAt es i).2.2.length (eAt es i).2.1) := by
  obtain ⟨g, o, h1, h2⟩ := h.row i _ (sC_at es i hi)
  exact ⟨g, o, h1, h2⟩
/-- What is read in old blocks stays. -/
theorem Rd.old {w wr W : World} {a : Option Addr} {xs : List Value} {S : Nat → Prop} (h : Rd w a xs) (hb : Below w.heap.size w wr) (hS : ∀ k, S k → w.heap.size ≤ k) (hm : Mod S wr W) : Rd W a xs := fun j u hj => by
  obtain ⟨b, o, rfl, hc⟩ := h j u hj
  have hl := World.block_lt_of_cell? w _ hc
  have hl2 : b < w.heap.size := hl
  refine ⟨b, o, rfl, ?_⟩
  rw [hm.cell (p := ⟨b, o + j, none⟩) (Nat.lt_of_lt_of_le hl hb.size) (fun e => by have := hS b e; omega), hb.cell (p := ⟨b, o + j, none⟩) hl]
  exact hc

theorem lay_many {w : World} {a1 a2 : Option Addr} {n1 c1 n2 c2 : Nat} (h : 8 < n1 ∨ 8 < n2) : Calls Try.prog 11 #[.slice a1 n1 c1, .slice a2 n2 c2] w fun e w' => e = .returned (.tuple #[.pointer none, .int .i64 3]) ∧ w' = w := by
  by_cases h1 : 8 < n1
  · have h1' : decide (8 < n1) = true := by simpa using h1
    clear h
    go_enter Try.func11, Try.ntmps11
    go_wp2_with fail
    go_ret2
    exact ⟨rfl, rfl⟩
  · have h2 : 8 < n2 := by omega
    have h1' : n1 ≤ 8 := by omega
    clear h h1
    go_enter Try.func11, Try.ntmps11
    go_wp2_with fail
    go_ret2
    exact ⟨rfl, rfl⟩
theorem lay_uneven {w : World} {a1 a2 : Option Addr} {n1 c1 n2 c2 : Nat} (h1 : n1 ≤ 8) (h2 : n2 ≤ 8) (h3 : n1 ≠ n2) : Calls Try.prog 11 #[.slice a1 n1 c1, .slice a2 n2 c2] w fun e w' => e = .returned (.tuple #[.pointer none, .int .i64 4]) ∧ w' = w := by
  have h1' : decide (8 < n1) = false := by simpa using h1
  have h2' : decide (8 < n2) = false := by simpa using h2
  have h3' : ((n1 : Int) != (n2 : Int)) = true := by simp; omega
  clear h3
  go_enter Try.func11, Try.ntmps11
  go_wp2_with fail
  go_ret2
  exact ⟨rfl, rfl⟩

/-- What Lay answers, and leaves. -/
def LayOut (w : World) (os : List Int) (qs : Qs) (R : Bool) (e : Ending) (w' : World) : Prop :=
  Below w.heap.size w w' ∧ ((R = false ∧ e = .returned (.tuple #[.pointer none, .int .i64 4])) ∨ (R = true ∧ ∃ b F, e = .returned (.tuple #[.pointer (some ⟨b, 0, none⟩), .int .i64 0]) ∧ Lk w' b F os qs ∧ ∀ k, F k → w.heap.size ≤ k))

def LayI (w wr : World) (b m : Nat) (os : List Int) (qs : Qs) (i : Nat) : Prop :=
  GoodL (os.take i) (qs.take i) ∧ Below w.heap.size w wr ∧ ∃ ao co aq cq es, LM wr b m ao co aq cq (os.take i) es (wtI (qs.take i)) (total (qs.take i)) ∧ qsOf es = qs.take i ∧ ∀ k, mfp b m ao aq es k → w.heap.size ≤ k

theorem total_take' (qs : Qs) (i : Nat) : total (qs.take i) + (qAt qs i).length ≤ total qs := by
  induction qs generalizing i with
  | nil => simp [total, qAt]
  | cons q r ih =>
    cases i with
    | zero => simp [total, qAt]
    | succ i =>
      have := ih i
      simp [total, qAt] at *
      omega
theorem take_oAt {os : List Int} {i : Nat} (h : i < os.length) : os.take (i + 1) = os.take i ++ [oAt os i] := by
  rw [List.take_succ_eq_append_getElem h]
  unfold oAt
  rw [List.getD_eq_getElem?_getD, List.getElem?_eq_getElem h]
  rfl
theorem take_qAt {qs : Qs} {i : Nat} (h : i < qs.length) : qs.take (i + 1) = qs.take i ++ [qAt qs i] := by
  rw [List.take_succ_eq_append_getElem h]
  unfold qAt
  rw [List.getD_eq_getElem?_getD, List.getElem?_eq_getElem h]
  rfl

set_option maxRecDepth 100000 in
set_option maxHeartbeats 4000000 in
theorem lay_any {w : World} {a1 a2 : Option Addr} {n c1 c2 : Nat} {os : List Int} {ea : List Qe} (hR1 : Rd w a1 (iC os)) (hR2 : RdQ w a2 ea) (hN1 : Hid (os.length = n)) (hN2 : Hid (ea.length = n)) (h8 : n ≤ 8) (hf1 : ∀ o ∈ os, Fit64 o) (hf2 : ∀ i, ∀ p ∈ qAt (qsOf ea) i, Fit64 p) (ht : total (qsOf ea) < 6000000000000) :
    Calls Try.prog 11 #[.slice a1 n c1, .slice a2 n c2] w fun e w' => LayOut w os (qsOf ea) (layF [] os (qsOf ea)) e w' := by
  obtain ⟨qs, hqs⟩ : ∃ qs, Hid (qsOf ea = qs) := ⟨_, rfl⟩
  have HQA : Hid (∀ i, qAt qs i = (eAt ea i).2.2) := hd (fun i => by rw [← hqs.out, qAt_of])
  have HLQ : Hid (qs.length = n) := hd (by rw [← hqs.out, qsOf_len, hN2.out])
  rw [hqs.out] at ht hf2 ⊢
  obtain ⟨R, hR⟩ : ∃ R, Hid (layF [] os qs = R) := ⟨_, rfl⟩
  rw [hR.out]
  have HR1 := hd hR1
  have HR2 := hd hR2
  have HF1 := hd hf1
  have HF2 := hd hf2
  have hmm : (Instr.makeMap 57 none).run Try.prog w = .ok (.map (some w.heap.size)) (w.alloc (.map #[] 0)) := rfl
  have h1' : decide (8 < n) = false := by simpa using h8
  have h3' : ((n : Int) != (n : Int)) = false := by simp
  clear hR1 hR2 hf1 hf2
  go_enter Try.func11, Try.ntmps11
  go_upto_region 6 with fail
  obtain ⟨w1, hw1⟩ : ∃ W, Hid ((w.alloc (.map #[] 0)).alloc (.cells #[.slice none 0 0, .slice none 0 0, .map (some w.heap.size)] 59) = W) := ⟨_, rfl⟩
  have HS : Hid (LayI w w1 (w.heap.size + 1) w.heap.size os qs 0) := hd (by
    have hb1 := below_al w (.map #[] 0)
    have hb2 := below_al (w.alloc (.map #[] 0)) (.cells #[.slice none 0 0, .slice none 0 0, .map (some w.heap.size)] 59)
    have hobj := heap_alloc_new (w.alloc (.map #[] 0)) (.cells #[.slice none 0 0, .slice none 0 0, .map (some w.heap.size)] 59)
    have hsz : (w.alloc (.map #[] 0)).heap.size = w.heap.size + 1 := by simp
    rw [hsz] at hobj
    rw [hw1.out] at hobj hb2
    have hfp : ∀ k, mfp (w.heap.size + 1) w.heap.size none none [] k → w.heap.size ≤ k := fun k hk => by
      rcases hk with hk | hk | hk | hk | ⟨i, hi, hk⟩
      · omega
      · omega
      · cases hk
      · cases hk
      · simp at hi
    refine ⟨GoodL.nil, hb1.trans (hb2.mono (by omega)), none, 0, none, 0, [], ⟨⟨hobj, Row.nil, Row.nil, (fun i hi => by simp at hi), (fun e => by cases e), (fun e => by cases e), (fun k hk => by cases hk), (fun i hi => by simp at hi), (fun i j hi => by simp at hi)⟩, ?_, fun e => ?_⟩, rfl, hfp⟩
    · have := (MapAt.new w).below (w' := w1) hb2
      exact this.congr (fun p => rfl)
    · rcases e with e | e | e | ⟨i, hi, e⟩
      · omega
      · cases e
      · cases e
      · simp at hi)
  have hsz : (w.alloc (.map #[] 0)).heap.size = w.heap.size + 1 := by simp
  try simp only [hsz]
  rw [hw1.out]
  obtain ⟨b, hb⟩ : ∃ b, Hid (w.heap.size + 1 = b) := ⟨_, rfl⟩
  obtain ⟨m, hm⟩ : ∃ m, Hid (w.heap.size = m) := ⟨_, rfl⟩
  have HS2 : Hid (LayI w w1 b m os qs 0) := hd (by
    have := HS.out
    rw [hb.out] at this
    rw [← hm.out]
    exact this)
  rw [hb.out]
  clear HS hmm hsz hw1
  go_wp2_with fail
  go_loopg [7, 8, 27, 28, 29, 30, 31, 32, 33, 34, 35, 36, 37, 38, 39, 40] n (fun k v7 v8 v27 v28 v29 v30 v31 v32 v33 v34 v35 v36 v37 v38 v39 v40 wr => ∃ i : Nat, i + k = n ∧ v27 = .int .i64 (i : Int) ∧ Hid (LayI w wr b m os qs i ∧ layF (qs.take i) (os.drop i) (qs.drop i) = R))
  case atStart => exact ⟨0, by omega, by go_num, hd ⟨HS2.out, by simpa using hR.out⟩⟩
  case round =>
    obtain ⟨i, hik, rfl, HX⟩ := hrel
    clear HS2 hR
    obtain ⟨⟨hGr, hBr, ao, co, aq, cq, es, hLr, hqr, hfr⟩, hFr⟩ := HX.out
    by_cases h0 : gk = 0
    · subst h0
      have hi : i = n := by omega
      subst hi
      have HE : Hid (LayOut w os qs R (.returned (.tuple #[.pointer (some ⟨b, 0, none⟩), .int .i64 0])) wr) := hd (by
        rw [layF_end (by rw [hN1.out]; omega)] at hFr
        have t1 : os.take i = os := List.take_of_length_le (by rw [hN1.out]; omega)
        have t2 : qs.take i = qs := List.take_of_length_le (by rw [HLQ.out]; omega)
        rw [t1, t2] at hGr hLr
        rw [t2] at hqr
        exact ⟨hBr, .inr ⟨hFr.symm, b, mfp b m ao aq es, rfl, ⟨hGr, m, ao, co, aq, cq, es, hLr, hqr, fun _ h => h, hLr.lt⟩, hfr⟩⟩)
      clear HX hGr hBr hLr hqr hfr hFr hik HR1 HR2 HF1 HF2 HLQ HQA
      go_wp2_with fail
      go_ret2
      exact HE.out
    · have hlt : i < n := by omega
      obtain ⟨g1, o1, rfl, e1⟩ := (HR1.out.below hBr).int i (by rw [hN1.out]; exact hlt)
      obtain ⟨g2, o2, rfl, e2⟩ := (HR2.out.below hBr).at' i (by rw [hN2.out]; exact hlt)
      have hoe : os.getD i 0 = oAt os i := by
        unfold oAt
        rw [List.getD_eq_getElem?_getD, List.getD_eq_getElem?_getD, List.getElem?_eq_getElem (by rw [hN1.out]; exact hlt)]
        rfl
      rw [hoe] at e1
      rw [layF_drop (by rw [hN1.out]; exact hlt) (by rw [hN1.out, HLQ.out])] at hFr
      have hfo := HF1.out (oAt os i) (oAt_mem (by rw [hN1.out]; exact hlt))
      have hrd : ∀ W, Mod (mfp b m ao aq es) wr W → Rd W (eAt ea i).1 (iC (qAt qs i)) := fun W hW => by
        rw [HQA.out i]
        exact (HR2.out.qs i (by rw [hN2.out]; exact hlt)).old hBr hfr hW
      obtain ⟨ln, hLN⟩ : ∃ ln, Hid ((qAt qs i).length = ln) := ⟨_, rfl⟩
      have htt := total_take' qs i
      have hln : (os.take i).length = i := by rw [List.length_take, hN1.out]; omega
      have had := add_any (c := (eAt ea i).2.1) hLr hGr hqr (by rw [hln]; omega) hrd hLN (HF2.out i) hfo (by rw [← hLN.out]; omega)
      rw [← HQA.out i, hLN.out] at e2
      obtain ⟨A, hA⟩ : ∃ A, Hid (addOk (qs.take i) (oAt os i) (qAt qs i) = A) := ⟨_, rfl⟩
      rw [hA.out] at had hFr
      have HTO := hd (take_oAt (os := os) (i := i) (by rw [hN1.out]; exact hlt))
      have HTQ := hd (take_qAt (qs := qs) (i := i) (by rw [HLQ.out]; exact hlt))
      obtain ⟨ov, hov⟩ : ∃ ov, Hid (oAt os i = ov) := ⟨_, rfl⟩
      rw [hov.out] at e1 had HTO
      have HBL : Hid (∀ w', AddOut wr b m ao aq es (os.take i) (qs.take i) ov (qAt qs i) A w' → Below w.heap.size w w') := hd (fun w' h => hBr.trans (h.1.below hBr.size (fun k _ hk => hfr k hk)))
      have HFR := hd hfr
      have HBR := hd hBr
      have HFRR := hd hFr
      clear HX hGr hBr hLr hqr hfr hFr HR1 HR2 HF1 HF2 hrd htt hln hfo hoe h0
      cases A with
      | false =>
        obtain rfl : R = false := by rw [← HFRR.out]; rfl
        have HE : Hid (∀ w', AddOut wr b m ao aq es (os.take i) (qs.take i) ov (qAt qs i) false w' → LayOut w os qs false (.returned (.tuple #[.pointer none, .int .i64 4])) w') := hd (fun w' h => ⟨HBL.out w' h, .inl ⟨rfl, rfl⟩⟩)
        clear HFRR HBL HFR HBR HTO HTQ
        go_wp2_with (first | (go_at_call 24; refine had.mono ?_; rintro e3 w3 ⟨rfl, ho3⟩))
        go_ret2
        exact HE.out _ ho3
      | true =>
        have HE : Hid (∀ w', AddOut wr b m ao aq es (os.take i) (qs.take i) ov (qAt qs i) true w' → LayI w w' b m os qs (i + 1) ∧ layF (qs.take (i + 1)) (os.drop (i + 1)) (qs.drop (i + 1)) = R) := hd (fun w' h => by
          have hb := HBL.out w' h
          obtain ⟨h1, h2⟩ := h
          obtain ⟨h3, ao', co', aq', cq', es', h4, h5, h6⟩ := h2 rfl
          refine ⟨?_, HFRR.out⟩
          unfold LayI
          rw [HTO.out, HTQ.out]
          refine ⟨h3, hb, ao', co', aq', cq', es', h4, h5, fun k hk => ?_⟩
          rcases h6 k hk with h7 | h7
          · exact HFR.out k h7
          · exact Nat.le_trans HBR.out.size h7)
        clear HFRR HBL HFR HBR HTO HTQ
        go_wp2_with (first | (go_at_call 24; refine had.mono ?_; rintro e3 w3 ⟨rfl, ho3⟩))
        go_roundg (gk - 1)
        case rel => exact ⟨i + 1, by omega, by go_num, hd (HE.out _ ho3)⟩
        case measure => omega
end Go.Proofs.Ytdihbbpndijdoaa
