/- Wait. -/
import Derived.Test.YtknklbojcnhjcaaPW9
import Derived.Deep.RegionWith
import Derived.Deep.RegionLaw
namespace Go.Proofs.Ytknklbojcnhjcaa
open Go.RowKit

theorem wplace1_any {pb : Nat} {p q v : Int} {w : World} (hc : w.cell? ⟨pb, 0, none⟩ = some (.int .i64 p)) (hl : pb < w.heap.size) (B : Bool) (hB : (q == p) = B) :
    Calls Try.prog 72 #[.agg #[.int .i64 q, .int .i64 v], .pointer (some ⟨pb, 0, none⟩)] w fun e w' => e = .returned (.bool B) ∧ Below w.heap.size w w' := by
  have hne := Nat.ne_of_lt hl
  go_enter Try.func72, Try.ntmps72
  go_wp2_with fail
  go_ret
  exact ⟨rfl, (Below.refl _ _).alloc (Nat.le_refl _) _⟩

set_option maxRecDepth 100000 in
set_option maxHeartbeats 2000000 in
theorem windex_any {a : Option Addr} {cap pb : Nat} {p : Int} {ws : List (Int × Int)} {w : World} (hR : Rd w a (wC ws)) (hc : w.cell? ⟨pb, 0, none⟩ = some (.int .i64 p)) (hl : pb < w.heap.size) (hn : ws.length ≤ 8000000000000) :
    Calls Try.prog 75 #[.slice a ws.length cap, .func (.func 72) #[] #[.pointer (some ⟨pb, 0, none⟩)]] w fun e w' => e = .returned (.int .i64 (idxL ws p)) ∧ Below w.heap.size w w' := by
  obtain ⟨I, hI⟩ : ∃ I, Hid (idxL ws p = I) := ⟨_, rfl⟩
  rw [hI.out]
  have HR := hd hR
  have HC := hd hc
  clear hR hc
  go_enter Try.func75, Try.ntmps75
  go_wp2_with fail
  go_loopg [5, 8] ws.length (fun k v5 v8 wr => ∃ i : Nat, v8 = .int .i64 i ∧ i + k = ws.length ∧ Hid (Below w.heap.size w wr ∧ ∀ j, j < i → (ws.getD j (0, 0)).1 ≠ p))
  case atStart => exact ⟨0, rfl, by omega, hd ⟨below_same _, fun j hj => absurd hj (Nat.not_lt_zero j)⟩⟩
  case round =>
    obtain ⟨i, rfl, hik, HH⟩ := hrel
    have hb := HH.out.1
    by_cases hlt : i < ws.length
    · have hlt' : (i : Int) < (ws.length : Int) := by omega
      obtain ⟨b, o, rfl, c0, c1⟩ := rd_w (HR.out.below hb) i hlt
      have hp := (hb.cell (p := ⟨pb, 0, none⟩) hl).trans HC.out
      have hpl := Nat.lt_of_lt_of_le hl hb.size
      obtain ⟨⟨q, v⟩, hq⟩ : ∃ t, Hid (ws.getD i (0, 0) = t) := ⟨_, rfl⟩
      rw [hq.out] at c0 c1
      simp only at c0 c1
      by_cases he : q = p
      · have hcl := wplace1_any (q := q) (v := v) hp hpl true (by simp [he])
        have hF : Hid (I = (i : Int)) := hd (by rw [← hI.out]; exact idxL_some hlt (by rw [hq.out]; exact he) HH.out.2)
        clear he
        go_wp2_with (first | (go_at_call 72; refine hcl.mono ?_; rintro e1 w1 ⟨rfl, b1⟩))
        go_ret
        exact ⟨by rw [hF.out]; rfl, hb.trans (b1.mono hb.size)⟩
      · have hcl := wplace1_any (q := q) (v := v) hp hpl false (by simp [he])
        have HN : Hid (q ≠ p) := hd he
        clear he
        go_wp2_with (first | (go_at_call 72; refine hcl.mono ?_; rintro e1 w1 ⟨rfl, b1⟩))
        go_roundg (gk - 1)
        case measure => omega
        case rel =>
          exact ⟨i + 1, by go_num, by omega, hd ⟨hb.trans (b1.mono hb.size), fun j hj => by
            by_cases ej : j = i
            · rw [ej, hq.out]; exact HN.out
            · exact HH.out.2 j (by omega)⟩⟩
    · have hltd : decide ((i : Int) < (ws.length : Int)) = false := by simp; omega
      have hF : Hid (I = -1) := hd (by rw [← hI.out]; exact idxL_none (fun j hj => HH.out.2 j (by omega)))
      go_wp2_with fail
      go_ret
      exact ⟨by rw [hF.out]; rfl, hb⟩


set_option maxRecDepth 100000 in
theorem wcont_any {a : Option Addr} {cap pb : Nat} {p : Int} {ws : List (Int × Int)} {w : World} (hR : Rd w a (wC ws)) (hc : w.cell? ⟨pb, 0, none⟩ = some (.int .i64 p)) (hl : pb < w.heap.size) (hn : ws.length ≤ 8000000000000) :
    Calls Try.prog 71 #[.slice a ws.length cap, .func (.func 72) #[] #[.pointer (some ⟨pb, 0, none⟩)]] w fun e w' => e = .returned (.bool (decide (0 ≤ idxL ws p))) ∧ Below w.heap.size w w' := by
  have hi := windex_any (cap := cap) hR hc hl hn
  obtain ⟨I, hI⟩ : ∃ I, Hid (idxL ws p = I) := ⟨_, rfl⟩
  rw [hI.out] at hi ⊢
  obtain ⟨n, hnn⟩ : ∃ n, Hid (ws.length = n) := ⟨_, rfl⟩
  rw [hnn.out] at hi ⊢
  clear hR hc hn hl
  go_enter Try.func71, Try.ntmps71
  go_wp2_with (first | (go_at_call 75; refine hi.mono ?_; rintro e1 w1 ⟨rfl, b1⟩))
  go_ret
  exact ⟨rfl, b1⟩

theorem field1 (v0 v2 v3 : Value) (a : Option Addr) (n c : Nat) (W : World) : (Instr.field 29 (.agg #[v0, .slice a n c, v2, v3]) 1).run Try.prog W = .ok (.slice a n c) W := by kernel_rfl
set_option maxRecDepth 100000 in
theorem waits1_any {bl pb : Nat} {F : Nat → Prop} {s : LS} {p : Int} {w : World} (h : Ln w 89 bl F s) (hv : s.vs.length ≤ 64) (hn : s.ws.length ≤ 8000000000000) (hc : w.cell? ⟨pb, 0, none⟩ = some (.int .i64 p)) (hl : pb < w.heap.size) :
    Calls Try.prog 70 #[.pointer (some ⟨bl, 0, none⟩), .pointer (some ⟨pb, 0, none⟩)] w fun e w' => e = .returned (.bool (decide (0 ≤ idxL s.ws p))) ∧ Below w.heap.size w w' := by
  have hs := state_any h (by omega) hn
  have hmf : ∀ (fn : Fn) (first cap : Array Value) (w : World), (Instr.makeFunc fn first cap).run Try.prog w = .ok (.func fn first cap) w := fun _ _ _ _ => rfl
  have hfd := field1
  unfold alV at hs
  obtain ⟨B, hB⟩ : ∃ B, Hid (decide (0 ≤ idxL s.ws p) = B) := ⟨_, rfl⟩
  have HK : Hid (∀ (w1 : World) (g1 g2 : Nat), Told w w1 s g1 g2 → Calls Try.prog 71 #[.slice (some ⟨g2, 0, none⟩) s.ws.length s.ws.length, .func (.func 72) #[] #[.pointer (some ⟨pb, 0, none⟩)]] w1 fun e w' => e = .returned (.bool B) ∧ Below w1.heap.size w1 w') := hd (fun w1 g1 g2 hT => by
    rw [← hB.out]
    exact wcont_any hT.wts.rd ((hT.bel.cell (p := ⟨pb, 0, none⟩) hl).trans hc) (Nat.lt_of_lt_of_le hl hT.bel.size) hn)
  rw [hB.out]
  clear h hc hv hn
  go_enter Try.func70, Try.ntmps70
  go_wp2_with (first | (go_at_call 24; refine hs.mono ?_; rintro e1 w1 ⟨g1, g2, rfl, hT⟩; have hk := HK.out _ _ _ hT) | (go_at_call 71; refine hk.mono ?_; rintro e2 w2 ⟨rfl, b2⟩))
  go_ret
  exact ⟨rfl, hT.bel.trans (b2.mono hT.bel.size)⟩

theorem waits_made (p : Int) (w : World) : Calls Try.prog 54 #[.int .i64 p] w fun e w' => e = .returned (.func (.func 70) #[] #[.pointer (some ⟨w.heap.size, 0, none⟩)]) ∧ w' = w.alloc (.cells #[.int .i64 p] 3) := by
  have hmf : ∀ (fn : Fn) (first cap : Array Value) (w : World), (Instr.makeFunc fn first cap).run Try.prog w = .ok (.func fn first cap) w := fun _ _ _ _ => rfl
  go_enter Try.func54, Try.ntmps54
  go_wp2
  go_ret
  exact ⟨rfl, rfl⟩

section
variable {b : Nat} {F : Nat → Prop} {ss : List LS} {cur : Nat} {w : World}
set_option maxRecDepth 100000 in
set_option maxHeartbeats 1000000 in
/-- slices.IndexFunc over lanes. -/
theorem lindexW {a : Option Addr} {cap : Nat} {bs : List Nat} {Fs : Nat → Nat → Prop} {pb : Nat} (f : LS → Bool) (h : PsAt w 59 89 60 b ss cur a cap bs Fs) (hn : ss.length ≤ 9)
    (hcall : ∀ (W : World) (i : Nat), i < ss.length → Below w.heap.size w W → Calls Try.prog 70 #[.pointer (some ⟨bs.getD i 0, 0, none⟩), .pointer (some ⟨pb, 0, none⟩)] W fun e w' => e = .returned (.bool (f (lnOf ss i))) ∧ Below W.heap.size W w') :
    Calls Try.prog 66 #[.slice a ss.length cap, .func (.func 70) #[] #[.pointer (some ⟨pb, 0, none⟩)]] w fun e w' => e = .returned (.int .i64 (idxP f ss)) ∧ Below w.heap.size w w' := by
  obtain ⟨I, hI⟩ : ∃ I, Hid (idxP f ss = I) := ⟨_, rfl⟩
  rw [hI.out]
  have HP := hd h
  have HCL := hd hcall
  obtain ⟨n, hnn⟩ : ∃ n, Hid (ss.length = n) := ⟨_, rfl⟩
  rw [hnn.out] at hn ⊢
  clear h hcall
  go_enter Try.func66, Try.ntmps66
  go_wp2_with fail
  go_loopg [5, 8] n (fun k v5 v8 wr => ∃ i : Nat, v8 = .int .i64 i ∧ i + k = n ∧ Hid (Below w.heap.size w wr ∧ ∀ j, j < i → f (lnOf ss j) = false))
  case atStart => exact ⟨0, rfl, by omega, hd ⟨below_same _, fun j hj => absurd hj (Nat.not_lt_zero j)⟩⟩
  case round =>
    obtain ⟨i, rfl, hik, HH⟩ := hrel
    have hb := HH.out.1
    by_cases hlt : i < n
    · have hlt' : (i : Int) < (n : Int) := by omega
      have hlt2 : i < ss.length := by rw [hnn.out]; exact hlt
      obtain ⟨g, rfl, c0⟩ := (HP.out.below hb).ptr i hlt2
      have hcl := HCL.out wr i hlt2 hb
      obtain ⟨p, hp⟩ : ∃ p, Hid (bs.getD i 0 = p) := ⟨_, rfl⟩
      rw [hp.out] at c0 hcl
      cases hf : f (lnOf ss i) with
      | true =>
        rw [hf] at hcl
        have hF : Hid (I = (i : Int)) := hd (by rw [← hI.out]; exact idxP_some hlt2 hf HH.out.2)
        clear hf hlt2
        go_wp2_with (first | (go_at_call 70; refine hcl.mono ?_; rintro e1 w1 ⟨rfl, b1⟩))
        go_ret
        exact ⟨by rw [hF.out]; rfl, hb.trans (b1.mono hb.size)⟩
      | false =>
        rw [hf] at hcl
        have HN := hd hf
        clear hf hlt2
        go_wp2_with (first | (go_at_call 70; refine hcl.mono ?_; rintro e1 w1 ⟨rfl, b1⟩))
        go_roundg (gk - 1)
        case measure => omega
        case rel =>
          exact ⟨i + 1, by go_num, by omega, hd ⟨hb.trans (b1.mono hb.size), fun j hj => by
            by_cases ej : j = i
            · rw [ej]; exact HN.out
            · exact HH.out.2 j (by omega)⟩⟩
    · have hltd : decide ((i : Int) < (n : Int)) = false := by simp; omega
      have hF : Hid (I = -1) := hd (by rw [← hI.out]; exact idxP_none (fun j hj => HH.out.2 j (by have := hnn.out; omega)))
      go_wp2_with fail
      go_ret
      exact ⟨by rw [hF.out]; rfl, hb⟩
set_option maxRecDepth 100000 in
theorem lcontW {a : Option Addr} {cap : Nat} {bs : List Nat} {Fs : Nat → Nat → Prop} {pb : Nat} (f : LS → Bool) (h : PsAt w 59 89 60 b ss cur a cap bs Fs) (hn : ss.length ≤ 9)
    (hcall : ∀ (W : World) (i : Nat), i < ss.length → Below w.heap.size w W → Calls Try.prog 70 #[.pointer (some ⟨bs.getD i 0, 0, none⟩), .pointer (some ⟨pb, 0, none⟩)] W fun e w' => e = .returned (.bool (f (lnOf ss i))) ∧ Below W.heap.size W w') :
    Calls Try.prog 43 #[.slice a ss.length cap, .func (.func 70) #[] #[.pointer (some ⟨pb, 0, none⟩)]] w fun e w' => e = .returned (.bool (ss.any f)) ∧ Below w.heap.size w w' := by
  have hi := lindexW f h hn hcall
  rw [← idxP_any]
  obtain ⟨I, hI⟩ : ∃ I, Hid (idxP f ss = I) := ⟨_, rfl⟩
  rw [hI.out] at hi ⊢
  obtain ⟨n, hnn⟩ : ∃ n, Hid (ss.length = n) := ⟨_, rfl⟩
  rw [hnn.out] at hi ⊢
  clear h hcall hn
  go_enter Try.func43, Try.ntmps43
  go_wp2_with (first | (go_at_call 66; refine hi.mono ?_; rintro e1 w1 ⟨rfl, b1⟩))
  go_ret
  exact ⟨rfl, b1⟩

/-- Not too many wait. -/
def FewP (ss : List LS) (N : Nat) : Prop := ∀ s ∈ ss, s.ws.length ≤ N

set_option maxRecDepth 100000 in
set_option maxHeartbeats 2000000 in
theorem pwait_any (h : Ps w 59 89 60 b F ss cur) (hg : GoodP ss cur) (hfew : FewP ss 7000000000000) (lane p v : Int) :
    Calls Try.prog 29 #[.pointer (some ⟨b, 0, none⟩), .int .i64 lane, .int .i64 p, .int .i64 v] w fun e w' => e = .returned (.int .i64 (waitP ss lane p v).1) ∧ PsOut w 59 89 60 b F (waitP ss lane p v).2 cur w' := by
  have hh := has_any h lane
  cases hb : isP ss.length lane with
  | false =>
    rw [show waitP ss lane p v = (2, ss) by unfold waitP; rw [hb]; rfl]
    rw [hb] at hh
    have HO := hd (PsOut.same h (below_same w))
    clear h hg
    simp only
    go_enter Try.func29, Try.ntmps29
    go_wp2_with (first | (go_at_call 37; refine hh.mono ?_; rintro e1 w1 ⟨rfl, rfl⟩))
    go_ret
    exact ⟨rfl, HO.out⟩
  | true =>
    have hl := isP_yes hb
    obtain ⟨i, rfl⟩ : ∃ i : Nat, lane = (i : Int) := ⟨lane.toNat, by omega⟩
    have hi : i < ss.length := by omega
    rw [show waitP ss (i : Int) p v = (if anyP ss p then (8, ss) else ((waitL (lnOf ss i) p v).1, ss.set i (waitL (lnOf ss i) p v).2)) by unfold waitP; rw [hb, Int.toNat_natCast]; rfl]
    rw [hb] at hh
    have HPS := hd h
    obtain ⟨a, cap, bs, Fs, h, hF, -⟩ := h
    obtain ⟨k0, k1⟩ := h.cells
    obtain ⟨g, rfl, kp⟩ := h.ptr i hi
    have HP := hd h
    have HCN : Hid (∀ W : World, Below w.heap.size w W → W.cell? ⟨w.heap.size, 0, none⟩ = some (.int .i64 p) → w.heap.size < W.heap.size → Calls Try.prog 43 #[.slice (some ⟨g, 0, none⟩) ss.length cap, .func (.func 70) #[] #[.pointer (some ⟨w.heap.size, 0, none⟩)]] W fun e w' => e = .returned (.bool (anyP ss p)) ∧ Below W.heap.size W w') := hd (fun W hbW hcW hlW =>
      lcontW (fun s => decide (0 ≤ idxL s.ws p)) (HP.out.below hbW) hg.n2 (fun W' j hj hb' => waits1_any (((HP.out.below hbW).below hb').lns j hj) (by have := (hg.at hj).len; have := (hg.at hj).r2; omega) (by have := hfew _ (lnOf_mem hj); omega) ((hb'.cell (p := ⟨w.heap.size, 0, none⟩) hlW).trans hcW) (Nat.lt_of_lt_of_le hlW hb'.size)))
    have hb0 := below_al w (.cells #[.int .i64 p] 3)
    have hwm := waits_made p
    obtain ⟨A, hA⟩ : ∃ A, Hid (anyP ss p = A) := ⟨_, rfl⟩
    obtain ⟨n, hn⟩ : ∃ n, Hid (ss.length = n) := ⟨_, rfl⟩
    have hi' : (i : Int) < (n : Int) := by rw [← hn.out]; omega
    obtain ⟨pb, hpb⟩ : ∃ p, Hid (bs.getD i 0 = p) := ⟨_, rfl⟩
    have hwt : Hid (∀ W : World, Below w.heap.size w W → Calls Try.prog 55 #[.pointer (some ⟨pb, 0, none⟩), .int .i64 p, .int .i64 v] W fun e w' => e = .returned (.int .i64 (waitL (lnOf ss i) p v).1) ∧ PsOut w 59 89 60 b F (ss.set i (waitL (lnOf ss i) p v).2) cur w') := hd (fun W hbW => by
      rw [← hpb.out]
      refine (wait_any ((HP.out.below hbW).lns i hi) p v (hfew _ (lnOf_mem hi))).mono (fun e w' ⟨h1, h2⟩ => ⟨h1, ?_⟩)
      obtain ⟨Fs2, h3⟩ := (HP.out.to.bel hbW).lane hi h2
      exact h3.out (by rw [List.length_set]; exact hF))
    have HCC : Hid (∀ W : World, Below w.heap.size w W → W.cell? ⟨b, 0, none⟩ = some (.slice (some ⟨g, 0, none⟩) n cap) ∧ W.cell? ⟨g, i, none⟩ = some (.pointer (some ⟨pb, 0, none⟩))) := hd (fun W hbW => by
      have h1 := HP.out.below hbW
      obtain ⟨g', e, h2⟩ := h1.ptr i hi
      cases e
      rw [← hn.out, ← hpb.out]
      exact ⟨h1.cells.1, h2⟩)
    rw [hA.out, hn.out] at HCN
    rw [hA.out]
    rw [hn.out] at k0
    rw [hpb.out] at kp
    obtain ⟨r, hr⟩ : ∃ r, Hid (waitL (lnOf ss i) p v = r) := ⟨_, rfl⟩
    rw [hr.out] at hwt ⊢
    have hbl := h.blt
    have hgl := h.row.lt g rfl
    have HB0 := hd hb0
    clear h hg hl hb hfew hb0
    have hwm1 := hwm w.drew
    have hcn1 := HCN.out (w.drew.alloc (.cells #[.int .i64 p] 3)) (((Below.refl _ w).drew).alloc (Nat.le_refl _) _) (show (w.drew.alloc (.cells #[.int .i64 p] 3)).cell? ⟨w.drew.heap.size, 0, none⟩ = _ by rw [cell_of_row _ _ _ _ _ _ (heap_alloc_new w.drew _)]; rfl) (by simp)
    have HB1 : Hid (Below w.heap.size w (w.drew.alloc (.cells #[.int .i64 p] 3))) := hd (((Below.refl _ w).drew).alloc (Nat.le_refl _) _)
    cases A with
    | true =>
      simp only [if_true]
      go_enter Try.func29, Try.ntmps29
      go_wp2_with (first | (go_at_call 37; refine hh.mono ?_; rintro e1 w ⟨rfl, rfl⟩))
      go_region_held3 (fun w' => w'.cell? ⟨b, 0, none⟩ = some (.slice (some ⟨g, 0, none⟩) n cap)) (go_keep)
        (first
          | (go_at_call 54; refine hwm1.mono ?_; rintro e2 w2 ⟨rfl, rfl⟩; have q0 := (HCC.out _ HB1.out).1)
          | (go_at_call 43; refine hcn1.mono ?_; rintro e3 w3 ⟨rfl, b3⟩
             have HB3 := hd (HB1.out.trans (b3.mono HB1.out.size))
             have q3 := (HCC.out w3 HB3.out).1))
      go_wp2_with fail
      go_ret
      exact ⟨rfl, PsOut.same HPS.out HB3.out⟩
    | false =>
      simp only [Bool.false_eq_true, if_false]
      go_enter Try.func29, Try.ntmps29
      go_wp2_with (first | (go_at_call 37; refine hh.mono ?_; rintro e1 w ⟨rfl, rfl⟩))
      go_region_held3 (fun w' => w'.cell? ⟨b, 0, none⟩ = some (.slice (some ⟨g, 0, none⟩) n cap)) (go_keep)
        (first
          | (go_at_call 54; refine hwm1.mono ?_; rintro e2 w2 ⟨rfl, rfl⟩; have q0 := (HCC.out _ HB1.out).1)
          | (go_at_call 43; refine hcn1.mono ?_; rintro e3 w3 ⟨rfl, b3⟩
             have HB3 := hd (HB1.out.trans (b3.mono HB1.out.size))
             have q3 := (HCC.out w3 HB3.out).1))
      have q4 := (HCC.out w3 HB3.out).2
      have hw3 := hwt.out w3 HB3.out
      go_wp2_with (first | (go_at_call 55; refine hw3.mono ?_; rintro e4 w4 ⟨rfl, ho⟩))
      go_ret
      exact ⟨rfl, ho⟩
end
end Go.Proofs.Ytknklbojcnhjcaa
