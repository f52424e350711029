/- Wait. -/
import Derived.Test.YthnjeejnnhadeaaGreatDoorGLc
import Derived.Test.YthnjeejnnhadeaaGreatDoorGPb
import Derived.Deep.RegionWith
import Derived.Deep.RegionLaw
namespace Go.Proofs.YthnjeejnnhadeaaGreatDoor.Lane
open Go.RowKit
theorem wplace1_any {pb : Nat} {p q v : Int} {w : World} (hc : w.cell? ⟨pb, 0, none⟩ = some (.int .i64 p)) (hl : pb < w.heap.size) (B : Bool) (hB : (q == p) = B) :
  Calls Tryz.prog 298 #[.agg #[.int .i64 q, .int .i64 v], .pointer (some ⟨pb, 0, none⟩)] w fun e w' => e = .returned (.bool B) ∧ Below w.heap.size w w' := by
 have hne := Nat.ne_of_lt hl
 go_enter Tryz.func298, Tryz.ntmps298
 go_wp2_with fail
 go_ret
 exact ⟨rfl, (Below.refl _ _).alloc (Nat.le_refl _) _⟩
set_option maxRecDepth 100000 in
set_option maxHeartbeats 2000000 in
theorem windex_any {a : Option Addr} {cap pb : Nat} {p : Int} {ws : List (Int × Int)} {w : World} (hR : Rd w a (wC ws)) (hc : w.cell? ⟨pb, 0, none⟩ = some (.int .i64 p)) (hl : pb < w.heap.size) (hn : ws.length ≤ 8000000000000) :
  Calls Tryz.prog 239 #[.slice a ws.length cap, .func (.func 298) #[] #[.pointer (some ⟨pb, 0, none⟩)]] w fun e w' => e = .returned (.int .i64 (idxL ws p)) ∧ Below w.heap.size w w' := by
 obtain ⟨I, hI⟩ : ∃ I, Hid (idxL ws p = I) := ⟨_, rfl⟩
 rw [hI.out]
 have HR := hd hR
 have HC := hd hc
 clear hR hc
 go_enter Tryz.func239, Tryz.ntmps239
 go_wp2_with fail
 go_loopg [5, 8] ws.length (fun k v5 v8 wr => ∃ i : Nat, v8 = .int .i64 i ∧ i + k = ws.length ∧ Hid (Below w.heap.size w wr ∧ ∀ j, j < i → (ws.getD j (0, 0)).1 ≠ p))
 case atStart => exact ⟨0, rfl, by omega, hd ⟨below_same _, fun j hj => absurd hj (Nat.not_lt_zero j)⟩⟩
 case round =>
  obtain ⟨i, rfl, hik, HH⟩ := hrel
  have hb := HH.out.1
  by_cases hlt : i < ws.length
  ·have hlt' : (i : Int) < (ws.length : Int) := by omega
   obtain ⟨b, o, rfl, c0, c1⟩ := rd_w (HR.out.below hb) i hlt
   have hp := (hb.cell (p := ⟨pb, 0, none⟩) hl).trans HC.out
   have hpl := Nat.lt_of_lt_of_le hl hb.size
   obtain ⟨⟨q, v⟩, hq⟩ : ∃ t, Hid (ws.getD i (0, 0) = t) := ⟨_, rfl⟩
   rw [hq.out] at c0 c1
   simp only at c0 c1
   by_cases he : q = p
   ·have hcl := wplace1_any (q := q) (v := v) hp hpl true (by simp [he])
    have hF : Hid (I = (i : Int)) := hd (by rw [← hI.out]; exact idxL_some hlt (by rw [hq.out]; exact he) HH.out.2)
    clear he
    go_wp2_with (first | (go_at_call 298; refine hcl.mono ?_; rintro e1 w1 ⟨rfl, b1⟩))
    go_ret
    exact ⟨by rw [hF.out]; rfl, hb.trans (b1.mono hb.size)⟩
   ·have hcl := wplace1_any (q := q) (v := v) hp hpl false (by simp [he])
    have HN : Hid (q ≠ p) := hd he
    clear he
    go_wp2_with (first | (go_at_call 298; refine hcl.mono ?_; rintro e1 w1 ⟨rfl, b1⟩))
    go_roundg (gk - 1)
    case measure => omega
    case rel =>
     exact ⟨i + 1, by go_num, by omega, hd ⟨hb.trans (b1.mono hb.size), fun j hj => by
      by_cases ej : j = i
      ·rw [ej, hq.out]; exact HN.out
      ·exact HH.out.2 j (by omega)⟩⟩
  ·have hltd : decide ((i : Int) < (ws.length : Int)) = false := by simp; omega
   have hF : Hid (I = -1) := hd (by rw [← hI.out]; exact idxL_none (fun j hj => HH.out.2 j (by omega)))
   go_wp2_with fail
   go_ret
   exact ⟨by rw [hF.out]; rfl, hb⟩
set_option maxRecDepth 100000 in
theorem wcont_any {a : Option Addr} {cap pb : Nat} {p : Int} {ws : List (Int × Int)} {w : World} (hR : Rd w a (wC ws)) (hc : w.cell? ⟨pb, 0, none⟩ = some (.int .i64 p)) (hl : pb < w.heap.size) (hn : ws.length ≤ 8000000000000) :
  Calls Tryz.prog 205 #[.slice a ws.length cap, .func (.func 298) #[] #[.pointer (some ⟨pb, 0, none⟩)]] w fun e w' => e = .returned (.bool (decide (0 ≤ idxL ws p))) ∧ Below w.heap.size w w' := by
 have hi := windex_any (cap := cap) hR hc hl hn
 obtain ⟨I, hI⟩ : ∃ I, Hid (idxL ws p = I) := ⟨_, rfl⟩
 rw [hI.out] at hi ⊢
 obtain ⟨n, hnn⟩ : ∃ n, Hid (ws.length = n) := ⟨_, rfl⟩
 rw [hnn.out] at hi ⊢
 clear hR hc hn hl
 go_enter Tryz.func205, Tryz.ntmps205
 go_wp2_with (first | (go_at_call 239; refine hi.mono ?_; rintro e1 w1 ⟨rfl, b1⟩))
 go_ret
 exact ⟨rfl, b1⟩
theorem field1 (v0 v2 v3 : Value) (a : Option Addr) (n c : Nat) (W : World) : (Instr.field 150 (.agg #[v0, .slice a n c, v2, v3]) 1).run Tryz.prog W = .ok (.slice a n c) W := by kernel_rfl
set_option maxRecDepth 100000 in
theorem waits1_any {bl pb : Nat} {F : Nat → Prop} {s : LS} {p : Int} {w : World} (h : Ln w 249 bl F s) (hv : s.vs.length ≤ 64) (hn : s.ws.length ≤ 8000000000000) (hc : w.cell? ⟨pb, 0, none⟩ = some (.int .i64 p)) (hl : pb < w.heap.size) :
  Calls Tryz.prog 297 #[.pointer (some ⟨bl, 0, none⟩), .pointer (some ⟨pb, 0, none⟩)] w fun e w' => e = .returned (.bool (decide (0 ≤ idxL s.ws p))) ∧ Below w.heap.size w w' := by
 have hs := state_any h (by omega) hn
 have hmf : ∀ (fn : Fn) (first cap : Array Value) (w : World), (Instr.makeFunc fn first cap).run Tryz.prog w = .ok (.func fn first cap) w := fun _ _ _ _ => rfl
 have hfd := field1
 unfold alV at hs
 obtain ⟨B, hB⟩ : ∃ B, Hid (decide (0 ≤ idxL s.ws p) = B) := ⟨_, rfl⟩
 have HK : Hid (∀ (w1 : World) (g1 g2 : Nat), Told w w1 s g1 g2 → Calls Tryz.prog 205 #[.slice (some ⟨g2, 0, none⟩) s.ws.length s.ws.length, .func (.func 298) #[] #[.pointer (some ⟨pb, 0, none⟩)]] w1 fun e w' => e = .returned (.bool B) ∧ Below w1.heap.size w1 w') := hd (fun w1 g1 g2 hT => by
  rw [← hB.out]
  exact wcont_any hT.wts.rd ((hT.bel.cell (p := ⟨pb, 0, none⟩) hl).trans hc) (Nat.lt_of_lt_of_le hl hT.bel.size) hn)
 rw [hB.out]
 clear h hc hv hn
 go_enter Tryz.func297, Tryz.ntmps297
 go_wp2_with (first | (go_at_call 160; refine hs.mono ?_; rintro e1 w1 ⟨g1, g2, rfl, hT⟩; have hk := HK.out _ _ _ hT) | (go_at_call 205; refine hk.mono ?_; rintro e2 w2 ⟨rfl, b2⟩))
 go_ret
 exact ⟨rfl, hT.bel.trans (b2.mono hT.bel.size)⟩
theorem waits_made (p : Int) (w : World) : Calls Tryz.prog 253 #[.int .i64 p] w fun e w' => e = .returned (.func (.func 297) #[] #[.pointer (some ⟨w.heap.size, 0, none⟩)]) ∧ w' = w.alloc (.cells #[.int .i64 p] 3) := by
 have hmf : ∀ (fn : Fn) (first cap : Array Value) (w : World), (Instr.makeFunc fn first cap).run Tryz.prog w = .ok (.func fn first cap) w := fun _ _ _ _ => rfl
 go_enter Tryz.func253, Tryz.ntmps253
 go_wp2
 go_ret
 exact ⟨rfl, rfl⟩
section
variable {b : Nat} {F : Nat → Prop} {ss : List LS} {cur : Nat} {w : World}
set_option maxRecDepth 100000 in
set_option maxHeartbeats 1000000 in
theorem lindexW {a : Option Addr} {cap : Nat} {bs : List Nat} {Fs : Nat → Nat → Prop} {pb : Nat} (f : LS → Bool) (h : PsAt w 188 249 185 b ss cur a cap bs Fs) (hn : ss.length ≤ 9)
  (hcall : ∀ (W : World) (i : Nat), i < ss.length → Below w.heap.size w W → Calls Tryz.prog 297 #[.pointer (some ⟨bs.getD i 0, 0, none⟩), .pointer (some ⟨pb, 0, none⟩)] W fun e w' => e = .returned (.bool (f (lnOf ss i))) ∧ Below W.heap.size W w') :
  Calls Tryz.prog 296 #[.slice a ss.length cap, .func (.func 297) #[] #[.pointer (some ⟨pb, 0, none⟩)]] w fun e w' => e = .returned (.int .i64 (idxP f ss)) ∧ Below w.heap.size w w' := by
 obtain ⟨I, hI⟩ : ∃ I, Hid (idxP f ss = I) := ⟨_, rfl⟩
 rw [hI.out]
 have HP := hd h
 have HCL := hd hcall
 obtain ⟨n, hnn⟩ : ∃ n, Hid (ss.length = n) := ⟨_, rfl⟩
 rw [hnn.out] at hn ⊢
 clear h hcall
 go_enter Tryz.func296, Tryz.ntmps296
 go_wp2_with fail
 go_loopg [5, 8] n (fun k v5 v8 wr => ∃ i : Nat, v8 = .int .i64 i ∧ i + k = n ∧ Hid (Below w.heap.size w wr ∧ ∀ j, j < i → f (lnOf ss j) = false))
 case atStart => exact ⟨0, rfl, by omega, hd ⟨below_same _, fun j hj => absurd hj (Nat.not_lt_zero j)⟩⟩
 case round =>
  obtain ⟨i, rfl, hik, HH⟩ := hrel
  have hb := HH.out.1
  by_cases hlt : i < n
  ·have hlt' : (i : Int) < (n : Int) := by omega
   have hlt2 : i < ss.length := by rw [hnn.out]; exact hlt
   obtain ⟨g, rfl, c0⟩ := (HP.out.below hb).ptr i hlt2
   have hcl := HCL.out wr i hlt2 hb
   obtain ⟨p, hp⟩ : ∃ p, Hid (bs.getD i 0 = p) := ⟨_, rfl⟩
   rw [hp.out] at c0 hcl
   cases hf : f (lnOf ss i) with
   | true =>
    rw [hf] at hcl
    have hF : Hid (I = (i : Int)) := hd (by rw [← hI.out]; exact idxP_some hlt2 hf HH.out.2)
    clear hf hlt2
    go_wp2_with (first | (go_at_call 297; refine hcl.mono ?_; rintro e1 w1 ⟨rfl, b1⟩))
    go_ret
    exact ⟨by rw [hF.out]; rfl, hb.trans (b1.mono hb.size)⟩
   | false =>
    rw [hf] at hcl
    have HN := hd hf
    clear hf hlt2
    go_wp2_with (first | (go_at_call 297; refine hcl.mono ?_; rintro e1 w1 ⟨rfl, b1⟩))
    go_roundg (gk - 1)
    case measure => omega
    case rel =>
     exact ⟨i + 1, by go_num, by omega, hd ⟨hb.trans (b1.mono hb.size), fun j hj => by
      by_cases ej : j = i
      ·rw [ej]; exact HN.out
      ·exact HH.out.2 j (by omega)⟩⟩
  ·have hltd : decide ((i : Int) < (n : Int)) = false := by simp; omega
   have hF : Hid (I = -1) := hd (by rw [← hI.out]; exact idxP_none (fun j hj => HH.out.2 j (by have := hnn.out; omega)))
   go_wp2_with fail
   go_ret
   exact ⟨by rw [hF.out]; rfl, hb⟩
set_option maxRecDepth 100000 in
theorem lcontW {a : Option Addr} {cap : Nat} {bs : List Nat} {Fs : Nat → Nat → Prop} {pb : Nat} (f : LS → Bool) (h : PsAt w 188 249 185 b ss cur a cap bs Fs) (hn : ss.length ≤ 9)
  (hcall : ∀ (W : World) (i : Nat), i < ss.length → Below w.heap.size w W → Calls Tryz.prog 297 #[.pointer (some ⟨bs.getD i 0, 0, none⟩), .pointer (some ⟨pb, 0, none⟩)] W fun e w' => e = .returned (.bool (f (lnOf ss i))) ∧ Below W.heap.size W w') :
  Calls Tryz.prog 252 #[.slice a ss.length cap, .func (.func 297) #[] #[.pointer (some ⟨pb, 0, none⟩)]] w fun e w' => e = .returned (.bool (ss.any f)) ∧ Below w.heap.size w w' := by
 have hi := lindexW f h hn hcall
 rw [← idxP_any]
 obtain ⟨I, hI⟩ : ∃ I, Hid (idxP f ss = I) := ⟨_, rfl⟩
 rw [hI.out] at hi ⊢
 obtain ⟨n, hnn⟩ : ∃ n, Hid (ss.length = n) := ⟨_, rfl⟩
 rw [hnn.out] at hi ⊢
 clear h hcall hn
 go_enter Tryz.func252, Tryz.ntmps252
 go_wp2_with (first | (go_at_call 296; refine hi.mono ?_; rintro e1 w1 ⟨rfl, b1⟩))
 go_ret
 exact ⟨rfl, b1⟩
def FewP (ss : List LS) (N : Nat) : Prop := ∀ s ∈ ss, s.ws.length ≤ N
set_option maxRecDepth 100000 in
set_option maxHeartbeats 2000000 in
theorem pwait_any (h : Ps w 188 249 185 b F ss cur) (hg : GoodP ss cur) (hfew : FewP ss 7000000000000) (lane p v : Int) :
    Calls Tryz.prog 219 #[.pointer (some ⟨b, 0, none⟩), .int .i64 lane, .int .i64 p, .int .i64 v] w fun e w' => e = .returned (.int .i64 (waitP ss lane p v).1) ∧ PsOut w 188 249 185 b F (waitP ss lane p v).2 cur w' := by
  have hh := has_any h lane
  cases hb : isP ss.length lane with
  | false =>
    rw [show waitP ss lane p v = (2, ss) by unfold waitP; rw [hb]; rfl]
    rw [hb] at hh
    have HO := hd (PsOut.same h (below_same w))
    clear h hg
    simp only
    go_enter Tryz.func219, Tryz.ntmps219
    go_wp2_with (first | (go_at_call 114; refine hh.mono ?_; rintro e1 w1 ⟨rfl, rfl⟩))
    go_ret
    exact ⟨rfl, HO.out⟩
  | true =>
    have hl := isP_yes hb
    obtain ⟨i, rfl⟩ : ∃ i : Nat, lane = (i : Int) := ⟨lane.toNat, by omega⟩
    have hi : i < ss.length := by omega
    rw [show waitP ss (i : Int) p v = (if anyP ss p then (8, ss) else ((waitL (lnOf ss i) p v).1, ss.set i (waitL (lnOf ss i) p v).2)) by unfold waitP; rw [hb, Int.toNat_natCast]; rfl]
    rw [hb] at hh
    have HPS := hd h
    obtain ⟨a, cap, bs, Fs, h, hF, -⟩ := h
    obtain ⟨k0, k1⟩ := h.cells
    obtain ⟨g, rfl, kp⟩ := h.ptr i hi
    have HP := hd h
    have HCN : Hid (∀ W : World, Below w.heap.size w W → W.cell? ⟨w.heap.size, 0, none⟩ = some (.int .i64 p) → w.heap.size < W.heap.size → Calls Tryz.prog 252 #[.slice (some ⟨g, 0, none⟩) ss.length cap, .func (.func 297) #[] #[.pointer (some ⟨w.heap.size, 0, none⟩)]] W fun e w' => e = .returned (.bool (anyP ss p)) ∧ Below W.heap.size W w') := hd (fun W hbW hcW hlW =>
      lcontW (fun s => decide (0 ≤ idxL s.ws p)) (HP.out.below hbW) hg.n2 (fun W' j hj hb' => waits1_any (((HP.out.below hbW).below hb').lns j hj) (by have := (hg.at hj).len; have := (hg.at hj).r2; omega) (by have := hfew _ (lnOf_mem hj); omega) ((hb'.cell (p := ⟨w.heap.size, 0, none⟩) hlW).trans hcW) (Nat.lt_of_lt_of_le hlW hb'.size)))
    have hb0 := below_al w (.cells #[.int .i64 p] 3)
    have hwm := waits_made p
    obtain ⟨A, hA⟩ : ∃ A, Hid (anyP ss p = A) := ⟨_, rfl⟩
    obtain ⟨n, hn⟩ : ∃ n, Hid (ss.length = n) := ⟨_, rfl⟩
    have hi' : (i : Int) < (n : Int) := by rw [← hn.out]; omega
    obtain ⟨pb, hpb⟩ : ∃ p, Hid (bs.getD i 0 = p) := ⟨_, rfl⟩
    have hwt : Hid (∀ W : World, Below w.heap.size w W → Calls Tryz.prog 254 #[.pointer (some ⟨pb, 0, none⟩), .int .i64 p, .int .i64 v] W fun e w' => e = .returned (.int .i64 (waitL (lnOf ss i) p v).1) ∧ PsOut w 188 249 185 b F (ss.set i (waitL (lnOf ss i) p v).2) cur w') := hd (fun W hbW => by
      rw [← hpb.out]
      refine (wait_any ((HP.out.below hbW).lns i hi) p v (hfew _ (lnOf_mem hi))).mono (fun e w' ⟨h1, h2⟩ => ⟨h1, ?_⟩)
      obtain ⟨Fs2, h3⟩ := (HP.out.to.bel hbW).lane hi h2
      exact h3.out (by rw [List.length_set]; exact hF))
    have HCC : Hid (∀ W : World, Below w.heap.size w W → W.cell? ⟨b, 0, none⟩ = some (.slice (some ⟨g, 0, none⟩) n cap) ∧ W.cell? ⟨g, i, none⟩ = some (.pointer (some ⟨pb, 0, none⟩))) := hd (fun W hbW => by
      have h1 := HP.out.below hbW
      obtain ⟨g', e, h2⟩ := h1.ptr i hi
      cases e
      rw [← hn.out, ← hpb.out]
      exact ⟨h1.cells.1, h2⟩)
    rw [hA.out, hn.out] at HCN
    rw [hA.out]
    rw [hn.out] at k0
    rw [hpb.out] at kp
    obtain ⟨r, hr⟩ : ∃ r, Hid (waitL (lnOf ss i) p v = r) := ⟨_, rfl⟩
    rw [hr.out] at hwt ⊢
    have hbl := h.blt
    have hgl := h.row.lt g rfl
    have HB0 := hd hb0
    clear h hg hl hb hfew hb0
    have hwm1 := hwm w.drew
    have hcn1 := HCN.out (w.drew.alloc (.cells #[.int .i64 p] 3)) (((Below.refl _ w).drew).alloc (Nat.le_refl _) _) (show (w.drew.alloc (.cells #[.int .i64 p] 3)).cell? ⟨w.drew.heap.size, 0, none⟩ = _ by rw [cell_of_row _ _ _ _ _ _ (heap_alloc_new w.drew _)]; rfl) (by simp)
    have HB1 : Hid (Below w.heap.size w (w.drew.alloc (.cells #[.int .i64 p] 3))) := hd (((Below.refl _ w).drew).alloc (Nat.le_refl _) _)
    cases A with
    | true =>
      simp only [if_true]
      go_enter Tryz.func219, Tryz.ntmps219
      go_wp2_with (first | (go_at_call 114; refine hh.mono ?_; rintro e1 w ⟨rfl, rfl⟩))
      go_region_held3 (fun w' => w'.cell? ⟨b, 0, none⟩ = some (.slice (some ⟨g, 0, none⟩) n cap)) (go_keep)
        (first
          | (go_at_call 253; refine hwm1.mono ?_; rintro e2 w2 ⟨rfl, rfl⟩; have q0 := (HCC.out _ HB1.out).1)
          | (go_at_call 252; refine hcn1.mono ?_; rintro e3 w3 ⟨rfl, b3⟩
             have HB3 := hd (HB1.out.trans (b3.mono HB1.out.size))
             have q3 := (HCC.out w3 HB3.out).1))
      go_wp2_with fail
      go_ret
      exact ⟨rfl, PsOut.same HPS.out HB3.out⟩
    | false =>
      simp only [Bool.false_eq_true, if_false]
      go_enter Tryz.func219, Tryz.ntmps219
      go_wp2_with (first | (go_at_call 114; refine hh.mono ?_; rintro e1 w ⟨rfl, rfl⟩))
      go_region_held3 (fun w' => w'.cell? ⟨b, 0, none⟩ = some (.slice (some ⟨g, 0, none⟩) n cap)) (go_keep)
        (first
          | (go_at_call 253; refine hwm1.mono ?_; rintro e2 w2 ⟨rfl, rfl⟩; have q0 := (HCC.out _ HB1.out).1)
          | (go_at_call 252; refine hcn1.mono ?_; rintro e3 w3 ⟨rfl, b3⟩
             have HB3 := hd (HB1.out.trans (b3.mono HB1.out.size))
             have q3 := (HCC.out w3 HB3.out).1))
      have q4 := (HCC.out w3 HB3.out).2
      have hw3 := hwt.out w3 HB3.out
      go_wp2_with (first | (go_at_call 254; refine hw3.mono ?_; rintro e4 w4 ⟨rfl, ho⟩))
      go_ret
      exact ⟨rfl, ho⟩
end
end Go.Proofs.YthnjeejnnhadeaaGreatDoor.Lane

namespace Go.Proofs.YthnjeejnnhadeaaGreatDoor.Lane
open Go.RowKit
theorem take_snocL {ss : List LS} {i : Nat} (h : i < ss.length) : ss.take (i + 1) = ss.take i ++ [lnOf ss i] := by
 rw [List.take_succ_eq_append_getElem h]
 unfold lnOf
 rw [List.getD_eq_getElem?_getD, List.getElem?_eq_getElem h]
 rfl
def totW (ss : List LS) : Nat := (ss.flatMap (·.ws)).length
theorem tot_mem {ss : List LS} {s : LS} (h : s ∈ ss) : s.ws.length ≤ totW ss := by
 unfold totW
 induction ss with
 | nil => cases h
 | cons x r ih =>
  rw [List.flatMap_cons, List.length_append]
  rcases List.mem_cons.1 h with rfl | h
  ·omega
  ·have := ih h; omega
theorem tot_take (ss : List LS) (i : Nat) : ((ss.take i).flatMap (·.ws)).length ≤ totW ss := by
 unfold totW
 have h : ss.flatMap (·.ws) = (ss.take i).flatMap (·.ws) ++ (ss.drop i).flatMap (·.ws) := by rw [← List.flatMap_append, List.take_append_drop]
 rw [h, List.length_append]
 omega
section
variable {b : Nat} {F : Nat → Prop} {ss : List LS} {cur : Nat} {w : World}
set_option maxRecDepth 100000 in
set_option maxHeartbeats 1000000 in
theorem pleave_any (h : Ps w 188 249 185 b F ss cur) (hn : ss.length ≤ 9) (hfew : totW ss ≤ 7000000000000) (p : Int) :
  Calls Tryz.prog 116 #[.pointer (some ⟨b, 0, none⟩), .int .i64 p] w fun e w' => e = .returned (.bool (leaveP ss p).1) ∧ PsOut w 188 249 185 b F (leaveP ss p).2 cur w' := by
 obtain ⟨a, cap, bs, Fs, h, hF, -⟩ := h
 have HF := hd hF
 obtain ⟨k0, k1⟩ := h.cells
 have HP := hd h.to
 obtain ⟨Q, hQ⟩ : ∃ Q : Ending → World → Prop, Hid ((fun e w' => e = .returned (.bool (leaveP ss p).1) ∧ PsOut w 188 249 185 b F (leaveP ss p).2 cur w') = Q) := ⟨_, rfl⟩
 rw [hQ.out]
 obtain ⟨n, hnn⟩ : ∃ n, Hid (ss.length = n) := ⟨_, rfl⟩
 rw [hnn.out] at hn k0
 clear h hF
 go_enter Tryz.func116, Tryz.ntmps116
 go_wp2_with fail
 go_loopg [5, 13] n (fun k v5 v13 wr => ∃ i : Nat, v13 = .int .i64 (i : Int) ∧ v5 = .bool ((ss.take i).any (fun s => (leaveL s p).1)) ∧ i + k = n ∧ Hid (∃ Fs', PsTo w 188 249 185 b a cap bs Fs (mapTo (fun s => (leaveL s p).2) i ss) cur wr Fs'))
 case atStart => exact ⟨0, rfl, by simp, by omega, hd ⟨Fs, by rw [mapTo_zero]; exact HP.out⟩⟩
 case round =>
  obtain ⟨i, rfl, rfl, hik, HH⟩ := hrel
  obtain ⟨B, hB⟩ : ∃ B, Hid ((ss.take i).any (fun s => (leaveL s p).1) = B) := ⟨_, rfl⟩
  rw [hB.out]
  by_cases hlt : i < n
  ·have hlt' : (i : Int) < (n : Int) := by omega
   obtain ⟨Fs', h1⟩ := HH.out
   have hil : i < ss.length := by rw [hnn.out]; exact hlt
   have him : i < (mapTo (fun s => (leaveL s p).2) i ss).length := by rw [mapTo_len]; exact hil
   obtain ⟨g, rfl, c0⟩ := h1.at'.ptr i him
   have hlv := leave_any (h1.at'.lns i him) p (by rw [mapTo_at _ hil]; have := tot_mem (lnOf_mem hil); omega)
   rw [mapTo_at _ hil] at hlv
   have HN : Hid (∀ w2, LnOut wr 249 (bs.getD i 0) (Fs' i) (leaveL (lnOf ss i) p).2 w2 → ∃ Fs', PsTo w 188 249 185 b (some ⟨g, 0, none⟩) cap bs Fs (mapTo (fun s => (leaveL s p).2) (i + 1) ss) cur w2 Fs') := hd (fun w2 ho => by
    obtain ⟨Fs2, h2⟩ := h1.lane him ho
    rw [mapTo_set (fun s => (leaveL s p).2) hil] at h2
    exact ⟨Fs2, h2⟩)
   have HB2 : Hid ((ss.take (i + 1)).any (fun s => (leaveL s p).1) = (B || (leaveL (lnOf ss i) p).1)) := hd (by rw [take_snocL hil, List.any_append, hB.out]; simp)
   obtain ⟨r, hr⟩ : ∃ r, Hid (leaveL (lnOf ss i) p = r) := ⟨_, rfl⟩
   obtain ⟨pb, hpb⟩ : ∃ p, Hid (bs.getD i 0 = p) := ⟨_, rfl⟩
   rw [hr.out, hpb.out] at hlv HN
   rw [hr.out] at HB2
   rw [hpb.out] at c0
   clear h1 him hil
   obtain ⟨r1, r2⟩ := r
   simp only at hlv HN HB2
   cases r1
   ·go_wp2_with (first | (go_at_call 178; refine hlv.mono ?_; rintro e2 w2 ⟨rfl, ho⟩))
    go_roundg (gk - 1)
    case measure => omega
    case rel => exact ⟨i + 1, by go_num, by rw [HB2.out]; simp, by omega, hd (HN.out _ ho)⟩
   ·go_wp2_with (first | (go_at_call 178; refine hlv.mono ?_; rintro e2 w2 ⟨rfl, ho⟩))
    go_roundg (gk - 1)
    case measure => omega
    case rel => exact ⟨i + 1, by go_num, by rw [HB2.out]; simp, by omega, hd (HN.out _ ho)⟩
  ·have hltd : decide ((i : Int) < (n : Int)) = false := by simp; omega
   have hle : (n : Int) ≤ (i : Int) := by omega
   go_wp2_with fail
   rw [← hQ.out]
   obtain ⟨Fs', h1⟩ := HH.out
   rw [mapTo_all _ (by have := hnn.out; omega)] at h1
   refine ⟨?_, h1.out (by rw [List.length_map]; exact HF.out)⟩
   rw [← hB.out, List.take_of_length_le (by have := hnn.out; omega)]
   rfl
def EndOut (w : World) (TP TL TE : TypeId) (b : Nat) (F : Nat → Prop) (ss : List LS) (cur : Nat) (E : Ending) (w' : World) : Prop :=
 ∃ a c, E = .returned (.slice a (endP ss).1.length c) ∧ Row w' 155 2 a (endP ss).1.length c (wC (endP ss).1) ∧ (∀ k, blk a = some k → w.heap.size ≤ k) ∧ Mod F w w' ∧ ∃ F', Ps w' TP TL TE b F' (endP ss).2 cur ∧ (∀ k, F' k → F k ∨ w.heap.size ≤ k) ∧ ∀ k, blk a = some k → ¬ F' k
set_option maxRecDepth 100000 in
set_option maxHeartbeats 2000000 in
theorem pend_any (h : Ps w 188 249 185 b F ss cur) (hn : ss.length ≤ 9) (hfew : totW ss ≤ 7000000000000) :
    Calls Tryz.prog 120 #[.pointer (some ⟨b, 0, none⟩)] w (EndOut w 188 249 185 b F ss cur) := by
  obtain ⟨a, cap, bs, Fs, h, hF, -⟩ := h
  have HF := hd hF
  obtain ⟨k0, k1⟩ := h.cells
  have HP := hd h.to
  obtain ⟨Q, hQ⟩ : ∃ Q : Ending → World → Prop, Hid (EndOut w 188 249 185 b F ss cur = Q) := ⟨_, rfl⟩
  rw [hQ.out]
  obtain ⟨n, hnn⟩ : ∃ n, Hid (ss.length = n) := ⟨_, rfl⟩
  rw [hnn.out] at hn k0
  clear h hF
  go_enter Tryz.func120, Tryz.ntmps120
  go_wp2_with fail
  go_loopg [3, 11] n (fun k v3 v11 wr => ∃ (i : Nat) (ax : Option Addr) (m cx : Nat), v11 = .int .i64 (i : Int) ∧ v3 = .slice ax m cx ∧ m ≤ 7000000000000 ∧ i + k = n ∧ Hid (m = ((ss.take i).flatMap (·.ws)).length ∧ Row wr 155 2 ax m cx (wC ((ss.take i).flatMap (·.ws))) ∧ (∀ k, blk ax = some k → w.heap.size ≤ k) ∧ ∃ Fs', PsTo w 188 249 185 b a cap bs Fs (mapTo endL i ss) cur wr Fs' ∧ ∀ k, blk ax = some k → ¬ pfp b a ss.length Fs' k))
  case atStart => exact ⟨0, none, 0, 0, rfl, rfl, by omega, by omega, hd ⟨by simp, by simpa [wC] using Row.nil, fun k hk => (by cases hk), Fs, by rw [mapTo_zero]; exact HP.out, fun k hk => by cases hk⟩⟩
  case round =>
    obtain ⟨i, ax, m, cx, rfl, rfl, hm7, hik, HH⟩ := hrel
    by_cases hlt : i < n
    · have hlt' : (i : Int) < (n : Int) := by omega
      obtain ⟨hm, hR, hge, Fs', h1, hnf⟩ := HH.out
      have hil : i < ss.length := by rw [hnn.out]; exact hlt
      have him : i < (mapTo endL i ss).length := by rw [mapTo_len]; exact hil
      obtain ⟨g, rfl, c0⟩ := h1.at'.ptr i him
      have hlw : (lnOf ss i).ws.length ≤ totW ss := tot_mem (lnOf_mem hil)
      have hev := end_any (h1.at'.lns i him) (by rw [mapTo_at _ hil]; omega)
      rw [mapTo_at _ hil] at hev
      have hmm : m + (lnOf ss i).ws.length = ((ss.take (i + 1)).flatMap (·.ws)).length := by
        rw [take_snocL hil, List.flatMap_append, List.length_append, ← hm]
        simp
      have hmm7 : m + (lnOf ss i).ws.length ≤ 7000000000000 := by rw [hmm]; have := tot_take ss (i + 1); omega
      have HN : Hid (∀ w2, Mod (Fs' i) wr w2 → Ln w2 249 (bs.getD i 0) (Fs' i) (endL (lnOf ss i)) → PsTo w 188 249 185 b (some ⟨g, 0, none⟩) cap bs Fs (mapTo endL (i + 1) ss) cur w2 (fun j k => if j = i then Fs' i k else Fs' j k)) := hd (fun w2 hmd hL => by
        have h2 := h1.laneF him hmd hL (fun k hk => .inl hk)
        rwa [mapTo_set endL hil] at h2)
      have HNF : Hid (∀ k, pfp b (some ⟨g, 0, none⟩) ss.length (fun j k => if j = i then Fs' i k else Fs' j k) k → pfp b (some ⟨g, 0, none⟩) ss.length Fs' k) := hd (fun k hk => by
        rcases hk with hk | hk | ⟨j, hj, hk⟩
        · exact .inl hk
        · exact .inr (.inl hk)
        · refine .inr (.inr ⟨j, hj, ?_⟩)
          by_cases e : j = i
          · rw [if_pos e] at hk; rw [e]; exact hk
          · rw [if_neg e] at hk; exact hk)
      have HX : Hid (∀ w2, Mod (Fs' i) wr w2 → Row w2 155 2 ax m cx (wC ((ss.take i).flatMap (·.ws)))) := hd (fun w2 hmd => hR.mod hmd (fun k hk e => hnf k hk (.inr (.inr ⟨i, hil, e⟩))))
      have HLT : Hid (∀ k, pfp b (some ⟨g, 0, none⟩) ss.length Fs' k → k < wr.heap.size) := hd (fun k hk => by have := h1.at'.lt k; rw [mapTo_len] at this; exact this hk)
      have HRL := hd hR.lt
      have HGE := hd hge
      have HNN := hd hnf
      have HSZ := hd h1.mod.size
      obtain ⟨wn, hwn⟩ : ∃ wn, Hid ((lnOf ss i).ws.length = wn) := ⟨_, rfl⟩
      obtain ⟨pb, hpb⟩ : ∃ p, Hid (bs.getD i 0 = p) := ⟨_, rfl⟩
      rw [hwn.out, hpb.out] at hev
      rw [hpb.out] at c0 HN
      rw [hwn.out] at hmm7
      have HMM : Hid (m + wn = ((ss.take (i + 1)).flatMap (·.ws)).length) := hd (by rw [← hwn.out]; exact hmm)
      clear h1 hmm hR hge hnf hm
      go_wp2_with (first
        | (go_at_call 182; refine hev.mono ?_; rintro e2 w2 ⟨g2, rfl, R2, hg2, M2, L2⟩
           have HP2 := hd (HN.out w2 M2 L2)
           have HL2 := hd L2.lt
           have HM2 := hd M2.size
           obtain ⟨a3, c3, w3, hap, R3, M3, B3⟩ := join_w (HX.out w2 M2) R2.rd (m := wn) (c2 := wn) (by rw [wC_len, hwn.out]) (wC_one _) (by omega)
           have HR3 := hd R3
           have HM3 := hd M3
           have HB3 := hd B3
           replace hap := hd hap
           clear R2 L2 R3 M3 B3 M2)
        | (at_builtin; refine wpList_append_run rfl _ _ _ rfl _ _ _ _ rfl rfl hap.out ?_; clear hap))
      go_roundg (gk - 1)
      case measure => omega
      case rel =>
        refine ⟨i + 1, a3, m + wn, c3, by go_num, rfl, by omega, by omega, hd ⟨HMM.out, ?_, ?_, _, HP2.out.modify HM3.out (fun k hk e => ?_) (fun k e => HGE.out k e), fun k hk hk2 => ?_⟩⟩
        · rw [take_snocL hil, List.flatMap_append, wC_app]
          have := HR3.out
          simpa using this
        · intro k hk
          rcases HB3.out k hk with h1 | h1
          · exact HGE.out k h1
          · have := HSZ.out; have := HM2.out; omega
        · rw [mapTo_len] at hk
          exact HNN.out k e (HNF.out k hk)
        · have h4 := HNF.out k hk2
          rcases HB3.out k hk with h1 | h1
          · exact HNN.out k h1 h4
          · have := HLT.out k h4; have := HM2.out; omega
    · have hltd : decide ((i : Int) < (n : Int)) = false := by simp; omega
      have hle : (n : Int) ≤ (i : Int) := by omega
      go_wp2_with fail
      rw [← hQ.out]
      obtain ⟨hm, hR, hge, Fs', h1, hnf⟩ := HH.out
      rw [List.take_of_length_le (by have := hnn.out; omega)] at hm hR
      rw [mapTo_all _ (by have := hnn.out; omega)] at h1
      have hlen : (endP ss).1.length = m := hm.symm
      refine ⟨ax, cx, by rw [hlen], by rw [hlen]; exact hR, hge, h1.mod.mono (fun k _ hk => HF.out k (by rwa [List.length_map] at hk)), _, h1.at'.ps, fun k hk => ?_, fun k hk hk2 => hnf k hk (by rwa [List.length_map] at hk2)⟩
      rcases h1.new k hk with h2 | h2
      · exact .inl (HF.out k (by rwa [List.length_map] at h2))
      · exact .inr h2
end
end Go.Proofs.YthnjeejnnhadeaaGreatDoor.Lane
