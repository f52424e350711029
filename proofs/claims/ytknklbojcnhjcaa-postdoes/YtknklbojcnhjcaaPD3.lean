/- The program's lanes and the document's, apart; stands. -/
import Derived.Test.YtknklbojcnhjcaaPD2
namespace Go.Proofs.Ytknklbojcnhjcaa
open Go.RowKit

/-- The program's lanes at bl, the document's at br; they share nothing. -/
structure PPair (B : Nat) (w0 w : World) (bl br : Nat) (sl : List LS) (cl : Nat) (sr : List LS) (cr : Nat) (Fl Fr : Nat → Prop) : Prop where
  l : Ps w 59 89 60 bl Fl sl cl
  r : Ps w 65 91 66 br Fr sr cr
  ap : ∀ k, Fl k → ¬ Fr k
  nl : ∀ k, Fl k → B ≤ k
  nr : ∀ k, Fr k → B ≤ k
  bel : Below B w0 w
  le : B ≤ w.heap.size
section
variable {B : Nat} {w0 w w' : World} {bl br : Nat} {sl sr : List LS} {cl cr : Nat} {Fl Fr : Nat → Prop}
theorem PPair.after (h : PPair B w0 w bl br sl cl sr cr Fl Fr) (hb : Below w.heap.size w w') : PPair B w0 w' bl br sl cl sr cr Fl Fr :=
  ⟨h.l.below hb, h.r.below hb, h.ap, h.nl, h.nr, h.bel.trans (hb.mono h.le), Nat.le_trans h.le hb.size⟩
theorem PPair.mod {S : Nat → Prop} (h : PPair B w0 w bl br sl cl sr cr Fl Fr) (hm : Mod S w w') (hl : ∀ k, S k → ¬ Fl k) (hr : ∀ k, S k → ¬ Fr k) (hB : ∀ k, S k → B ≤ k) : PPair B w0 w' bl br sl cl sr cr Fl Fr :=
  ⟨h.l.mod hm (fun k hk hs => hl k hs hk), h.r.mod hm (fun k hk hs => hr k hs hk), h.ap, h.nl, h.nr, h.bel.trans (hm.below h.le (fun k _ hk => hB k hk)), Nat.le_trans h.le hm.size⟩
theorem PPair.outL (h : PPair B w0 w bl br sl cl sr cr Fl Fr) {s' : List LS} {c' : Nat} (ho : PsOut w 59 89 60 bl Fl s' c' w') : ∃ Fl', PPair B w0 w' bl br s' c' sr cr Fl' Fr ∧ ∀ k, Fl' k → Fl k ∨ w.heap.size ≤ k := by
  obtain ⟨hm, F', h1, h2⟩ := ho
  refine ⟨F', ⟨h1, h.r.mod hm (fun k hk hf => h.ap k hf hk), fun k hk hf => ?_, fun k hk => ?_, h.nr, h.bel.trans (hm.below h.le (fun k _ hk => h.nl k hk)), Nat.le_trans h.le hm.size⟩, h2⟩
  · rcases h2 k hk with h3 | h3
    · exact h.ap k h3 hf
    · have := h.r.lt k hf; omega
  · rcases h2 k hk with h3 | h3
    · exact h.nl k h3
    · exact Nat.le_trans h.le h3
theorem PPair.outR (h : PPair B w0 w bl br sl cl sr cr Fl Fr) {s' : List LS} {c' : Nat} (ho : PsOut w 65 91 66 br Fr s' c' w') : ∃ Fr', PPair B w0 w' bl br sl cl s' c' Fl Fr' ∧ ∀ k, Fr' k → Fr k ∨ w.heap.size ≤ k := by
  obtain ⟨hm, F', h1, h2⟩ := ho
  refine ⟨F', ⟨h.l.mod hm (fun k hk hf => h.ap k hk hf), h1, fun k hk hf => ?_, h.nl, fun k hk => ?_, h.bel.trans (hm.below h.le (fun k _ hk => h.nr k hk)), Nat.le_trans h.le hm.size⟩, h2⟩
  · rcases h2 k hf with h3 | h3
    · exact h.ap k hk h3
    · have := h.l.lt k hk; omega
  · rcases h2 k hk with h3 | h3
    · exact h.nr k h3
    · exact Nat.le_trans h.le h3
/-- A block that is new beside the lanes stays as it is while they are changed. -/
theorem PsOut.box {TP TL TE : TypeId} {b : Nat} {F : Nat → Prop} {s' : List LS} {c' G : Nat} {t : TypeId} {cs : Array Value} (ho : PsOut w TP TL TE b F s' c' w') (hg : ¬ F G) (hx : w.heap[G]? = some (.cells cs t (0, 0))) : w'.heap[G]? = some (.cells cs t (0, 0)) := by
  rw [ho.1.block G (Array.getElem?_eq_some_iff.1 hx).1 hg]
  exact hx
end

theorem Tells.eqv {l m : List TLn} {ss : List LS} (h : Tells l ss) (k : Tells m ss) : Eqv l m := by
  refine ⟨by rw [h.1, k.1], fun i hi => ?_⟩
  rw [h.1] at hi
  obtain ⟨h1, h2, h3, h4⟩ := h.2 i hi
  obtain ⟨k1, k2, k3, k4⟩ := k.2 i hi
  exact ⟨by rw [h1, k1], by rw [h2, k2], by rw [h3, k3], by rw [h4, k4]⟩
theorem Tells.len {l : List TLn} {ss : List LS} {cur : Nat} (h : Tells l ss) (hg : GoodP ss cur) (hn : totW ss ≤ 7000000000000) : LenT l := fun t ht => by
  obtain ⟨i, hi, rfl⟩ := tAt_of_mem ht
  rw [h.1] at hi
  obtain ⟨h1, h2, _, _⟩ := h.2 i hi
  rw [h1, h2]
  have a := (hg.at hi).len
  have b := (hg.at hi).r2
  have c := tot_mem (lnOf_mem hi)
  exact ⟨by omega, by omega⟩

set_option maxRecDepth 100000 in
set_option maxHeartbeats 4000000 in
theorem pstands_any {B : Nat} {w0 w : World} {bl br : Nat} {ss : List LS} {cur : Nat} {Fl Fr : Nat → Prop} (h : PPair B w0 w bl br ss cur ss cur Fl Fr) (hg : GoodP ss cur) (hn : totW ss ≤ 7000000000000) :
    Calls Try.prog 16 #[.pointer (some ⟨bl, 0, none⟩), .pointer (some ⟨br, 0, none⟩)] w fun e w' => e = .returned (.bool true) ∧ PPair B w0 w' bl br ss cur ss cur Fl Fr := by
  have HT := hd h
  have HG := hd hg
  have hr1 := rpstate_any h.r hg hn
  have hn9 := hg.n2
  obtain ⟨n, hnn⟩ : ∃ n, Hid (ss.length = n) := ⟨_, rfl⟩
  rw [hnn.out] at hr1 hn9
  clear h hg
  go_enter Try.func16, Try.ntmps16
  go_upto_region 2 with (first | (go_at_call 36; refine hr1.mono ?_; rintro e1 w1 ⟨dw, cw, lw, rfl, O1, T1⟩))
  have HO1 := hd O1
  have HL1 := hd T1
  have HT1 := hd (HT.out.after O1.bel)
  have hp2 := pstate_any HT1.out.l HG.out hn
  rw [hnn.out] at hp2
  clear O1 T1 hr1
  go_upto_region 3 with (first | (go_at_call 14; refine hp2.mono ?_; rintro e2 w2 ⟨da, ca, la, rfl, O2, T2⟩))
  have HO2 := hd O2
  have HL2 := hd T2
  have HT2 := hd (HT1.out.after O2.bel)
  have hp3 := pstate_any HT2.out.l HG.out hn
  rw [hnn.out] at hp3
  clear O2 T2 hp2
  go_upto_region 4 with (first | (go_at_call 14; refine hp3.mono ?_; rintro e3 w3 ⟨db, cb, lb, rfl, O3, T3⟩))
  have HO3 := hd O3
  have HL3 := hd T3
  have HT3 := hd (HT2.out.after O3.bel)
  clear O3 T3 hp3
  -- what is known of the three lists
  have HW3 : Hid (TlIn w.heap.size w3 dw cw lw) := hd ((HO1.out.in.below HO2.out.bel).below HO3.out.bel)
  have HA3 : Hid (TlIn w1.heap.size w3 da ca la) := hd (HO2.out.in.below HO3.out.bel)
  have HB3 : Hid (TlIn w2.heap.size w3 db cb lb) := hd HO3.out.in
  have HWlt : Hid (∀ k, tlf dw lw k → w.heap.size ≤ k ∧ k < w1.heap.size) := hd (fun k hk => ⟨HO1.out.in.from k hk, HO1.out.in.lt k hk⟩)
  have HAlt : Hid (∀ k, tlf da la k → w1.heap.size ≤ k ∧ k < w2.heap.size) := hd (fun k hk => ⟨HO2.out.in.from k hk, HO2.out.in.lt k hk⟩)
  have HBlt : Hid (∀ k, tlf db lb k → w2.heap.size ≤ k) := hd (fun k hk => HO3.out.in.from k hk)
  have HSZ : Hid (w.heap.size ≤ w1.heap.size ∧ w1.heap.size ≤ w2.heap.size) := hd ⟨HO1.out.bel.size, HO2.out.bel.size⟩
  have HFL : Hid (∀ k, w.heap.size ≤ k → ¬ Fl k ∧ ¬ Fr k ∧ B ≤ k) := hd (fun k hk => ⟨fun hf => by have := HT.out.l.lt k hf; omega, fun hf => by have := HT.out.r.lt k hf; omega, Nat.le_trans HT.out.le hk⟩)
  have hla : la.length = n := by rw [HL2.out.1, hnn.out]
  have hlb : lb.length = n := by rw [HL3.out.1, hnn.out]
  have hlw : lw.length = n := by rw [HL1.out.1, hnn.out]
  have hs4 := psame_any (c := ca) (e := cw) HA3.out.als HW3.out.als (HL2.out.eqv HL1.out) (by omega) (HL2.out.len HG.out hn)
  rw [hla, hlw] at hs4
  go_upto_region 5 with (first | (go_at_call 10; refine hs4.mono ?_; rintro e4 w4 ⟨rfl, b4⟩))
  have HT4 := hd (HT3.out.after b4)
  have HW4 := hd (HW3.out.below b4)
  have HA4 := hd (HA3.out.below b4)
  have HB4 := hd (HB3.out.below b4)
  have hs5 := pspoil_any HA4.out (by omega) (HL2.out.len HG.out hn)
  rw [hla] at hs5
  clear hs4 b4 HW3 HA3 HB3 HT3
  go_upto_region 6 with (first | (go_at_call 11; refine hs5.mono ?_; rintro e5 w5 ⟨rfl, M5⟩))
  have HT5 := hd (HT4.out.mod M5 (fun k hk => (HFL.out k (by have := (HAlt.out k hk).1; have := HSZ.out; omega)).1) (fun k hk => (HFL.out k (by have := (HAlt.out k hk).1; have := HSZ.out; omega)).2.1) (fun k hk => (HFL.out k (by have := (HAlt.out k hk).1; have := HSZ.out; omega)).2.2))
  have HW5 := hd (HW4.out.mod M5 (fun k hk hs => by have := (HWlt.out k hk).2; have := (HAlt.out k hs).1; omega))
  have HB5 := hd (HB4.out.mod M5 (fun k hk hs => by have := HBlt.out k hk; have := (HAlt.out k hs).2; omega))
  have hs6 := psame_any (c := cb) (e := cw) HB5.out.als HW5.out.als (HL3.out.eqv HL1.out) (by omega) (HL3.out.len HG.out hn)
  rw [hlb, hlw] at hs6
  clear hs5 M5 HW4 HA4 HB4 HT4
  go_upto_region 7 with (first | (go_at_call 10; refine hs6.mono ?_; rintro e6 w6 ⟨rfl, b6⟩))
  have HT6 := hd (HT5.out.after b6)
  have HB6 := hd (HB5.out.below b6)
  have hs7 := pspoil_any HB6.out (by omega) (HL3.out.len HG.out hn)
  rw [hlb] at hs7
  clear hs6 b6 HW5 HB5 HT5
  go_upto_region 8 with (first | (go_at_call 11; refine hs7.mono ?_; rintro e7 w7 ⟨rfl, M7⟩))
  have HT7 := hd (HT6.out.mod M7 (fun k hk => (HFL.out k (by have := HBlt.out k hk; have := HSZ.out; omega)).1) (fun k hk => (HFL.out k (by have := HBlt.out k hk; have := HSZ.out; omega)).2.1) (fun k hk => (HFL.out k (by have := HBlt.out k hk; have := HSZ.out; omega)).2.2))
  have hr8 := rpsome_any HT7.out.r HG.out.n2
  have hp9 := psome_any HT7.out.l HG.out.n2
  obtain ⟨S, hS⟩ : ∃ S, Hid (someP ss = S) := ⟨_, rfl⟩
  rw [hS.out] at hr8 hp9
  clear hs7 M7 HB6 HT6
  go_wp2_with (first | (go_at_call 35; refine hr8.mono ?_; rintro e8 w7 ⟨rfl, rfl⟩) | (go_at_call 19; refine hp9.mono ?_; rintro e9 w9 ⟨rfl, b9⟩))
  all_goals go_ret
  all_goals exact ⟨by first | rfl | simp, HT7.out.after b9⟩
end Go.Proofs.Ytknklbojcnhjcaa
