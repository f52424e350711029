/- The document's side: Take. -/
import Derived.Test.YtknklbojcnhjcaaPR1
namespace Go.Proofs.Ytknklbojcnhjcaa
open Go.RowKit

theorem rnd_tmod {n cur k : Nat} : ((cur : Int) + (k : Int)).tmod (n : Int) = ((rnd n cur k : Nat) : Int) := by
  unfold rnd
  rw [show (cur : Int) + (k : Int) = ((cur + k : Nat) : Int) by omega]
  exact (Int.ofNat_tmod _ _).symm
theorem next_tmod {n i : Nat} : ((i : Int) + 1).tmod (n : Int) = (((i + 1) % n : Nat) : Int) := by
  rw [show (i : Int) + 1 = ((i + 1 : Nat) : Int) by omega]
  exact (Int.ofNat_tmod _ _).symm

/-- One lane changed in a world that came since: whatever is theirs lay there ahead of it, or is new since then. -/
theorem PsAt.laneN {w w1 w2 : World} {TP TL TE : TypeId} {b : Nat} {ss : List LS} {cur : Nat} {a : Option Addr} {cap : Nat} {bs : List Nat} {Fs : Nat → Nat → Prop} (h : PsAt w TP TL TE b ss cur a cap bs Fs) (hb : Below w.heap.size w w1) {i : Nat} (hi : i < ss.length) {s' : LS} (ho : LnOut w1 TL (bs.getD i 0) (Fs i) s' w2) :
    ∃ Fs2, PsTo w TP TL TE b a cap bs Fs (ss.set i s') cur w2 Fs2 ∧ ∀ k, pfp b a ss.length Fs2 k → k < w.heap.size ∨ w1.heap.size ≤ k := by
  obtain ⟨hm, F', hL, hF'⟩ := ho
  refine ⟨_, (h.to.bel hb).laneF hi hm hL hF', fun k hk => ?_⟩
  rcases hk with rfl | hk | ⟨j, hj, hk⟩
  · exact .inl h.blt
  · exact .inl (h.row.lt k hk)
  · by_cases e : j = i
    · rw [if_pos e] at hk
      rcases hF' k hk with h2 | h2
      · exact .inl ((h.lns i hi).lt k h2)
      · exact .inr h2
    · rw [if_neg e] at hk
      exact .inl ((h.lns j hj).lt k hk)

set_option maxRecDepth 100000 in
set_option maxHeartbeats 4000000 in
theorem rptake_any {b : Nat} {F : Nat → Prop} {ss : List LS} {cur : Nat} {w : World} (h : Ps w 65 91 66 b F ss cur) (hg : GoodP ss cur) (hn : ∀ s ∈ ss, s.ws.length ≤ 8000000000000) :
    Calls Try.prog 28 #[.pointer (some ⟨b, 0, none⟩)] w fun e w' => e = .returned (ptkV (takeP ss cur).1) ∧ PsOut w 65 91 66 b F (takeP ss cur).2.1 (takeP ss cur).2.2 w' := by
  obtain ⟨Q, hQ⟩ : ∃ Q : Ending → World → Prop, Hid ((fun e w' => e = .returned (ptkV (takeP ss cur).1) ∧ PsOut w 65 91 66 b F (takeP ss cur).2.1 (takeP ss cur).2.2 w') = Q) := ⟨_, rfl⟩
  rw [hQ.out]
  have HPS := hd h
  obtain ⟨a, cap, bs, Fs, h, hF, -⟩ := h
  have HP := hd h
  have HF := hd hF
  have hn9 := hg.n2
  have hn1 := hg.n1
  have hcu := hg.cu
  have HG := hd hg
  have HFW := hd hn
  obtain ⟨n, hnn⟩ : ∃ n, Hid (ss.length = n) := ⟨_, rfl⟩
  rw [hnn.out] at hn9 hn1 hcu
  have HX : Hid (Box2 (w.alloc (.cells #[.int .i64 0, .int .i64 0] 52)) 52 w.heap.size 0 0) := hd (box_new w 52 0 0)
  have HB0 : Hid (Below w.heap.size w (w.alloc (.cells #[.int .i64 0, .int .i64 0] 52))) := hd (below_al w _)
  obtain ⟨G, hG⟩ : ∃ G, Hid (w.heap.size = G) := ⟨_, rfl⟩
  have hbl := h.blt
  have hbG : b ≠ G := by have := hG.out; omega
  clear h hF hg hn
  go_enter Try.func28, Try.ntmps28
  go_wp2_with fail
  obtain ⟨w0, hw0⟩ : ∃ W, Hid (w.alloc (.cells #[.int .i64 0, .int .i64 0] 52) = W) := ⟨_, rfl⟩
  rw [hw0.out] at HX HB0 ⊢
  rw [hG.out] at HX ⊢
  go_loopg [7] n (fun k v7 wr => ∃ i : Nat, v7 = .int .i64 (i : Int) ∧ i + k = n ∧ Hid ((∃ m, wr = w0.drewN m) ∧ ∀ j, j < i → (lnOf ss (rnd n cur j)).vs = []))
  case atStart => exact ⟨0, rfl, by omega, hd ⟨⟨0, rfl⟩, fun j hj => by omega⟩⟩
  case round =>
    obtain ⟨i, rfl, hik, HH⟩ := hrel
    obtain ⟨m, hm⟩ := HH.out.1
    have hbw : Below w.heap.size w wr := by rw [hm]; exact HB0.out.trans ((below_drewN (below_same w0) m).mono HB0.out.size)
    have X : Box2 wr 52 G 0 0 := by rw [hm]; exact HX.out.bel (below_drewN (below_same w0) m)
    have HPr := hd (HP.out.below hbw)
    obtain ⟨k0, k1⟩ := HPr.out.cells
    rw [hnn.out] at k0
    have HM := hd hm
    have HBW := hd hbw
    clear hm hbw
    by_cases hlt : i < n
    · have hlt' : (i : Int) < (n : Int) := by omega
      have hn0 : (n : Int) ≠ 0 := by omega
      obtain ⟨x, hx⟩ : ∃ x, Hid (rnd n cur i = x) := ⟨_, rfl⟩
      have htm : ((cur : Int) + (i : Int)).tmod (n : Int) = (x : Int) := by rw [rnd_tmod, hx.out]
      have hxn : x < n := by rw [← hx.out]; exact rnd_lt (by omega)
      have hxn' : (x : Int) < (n : Int) := by omega
      have hxl : x < ss.length := by rw [hnn.out]; exact hxn
      obtain ⟨g, rfl, kp⟩ := HPr.out.ptr x hxl
      obtain ⟨a1, c1, a2, c2, hL, -, -⟩ := HPr.out.lns x hxl
      obtain ⟨-, l1, -, -, -⟩ := hL.cells
      have HE : Hid (∀ m', Below (wr.drewN m').heap.size (wr.drewN m') (wr.drewN m')) := hd (fun _ => below_same _)
      obtain ⟨s, hs⟩ : ∃ s, Hid (lnOf ss x = s) := ⟨_, rfl⟩
      obtain ⟨pb, hpb⟩ : ∃ p, Hid (bs.getD x 0 = p) := ⟨_, rfl⟩
      rw [hs.out, hpb.out] at l1
      rw [hpb.out] at kp
      obtain ⟨vn, hvn⟩ : ∃ vn, Hid (s.vs.length = vn) := ⟨_, rfl⟩
      rw [hvn.out] at l1
      by_cases hv : s.vs = []
      · have hv0 : vn = 0 := by rw [← hvn.out, hv]; rfl
        subst hv0
        have HVE : Hid ((lnOf ss (rnd n cur i)).vs = []) := hd (by rw [hx.out, hs.out]; exact hv)
        clear hv hL
        go_wp2_with fail
        go_quiet (fail)
        go_wp2_with fail
        go_roundg (gk - 1)
        case measure => omega
        case rel => exact ⟨i + 1, by go_num, by omega, hd ⟨⟨m + nq, by rw [HM.out, drewN_add]⟩, fun j hj => by
          by_cases e : j = i
          · rw [e]; exact HVE.out
          · exact HH.out.2 j (by omega)⟩⟩
      · have hv0 : ((vn : Int) == 0) = false := by
          have h1 := hvn.out
          have h2 : 0 < s.vs.length := List.length_pos_iff.2 hv
          simp
          omega
        have HTK : Hid (takeP ss cur = _) := hd (takeP_some (ss := ss) (cur := cur) (m := i) (i := x) (by rw [hnn.out, hx.out]) (by rw [hnn.out]; exact hlt) (by rw [hs.out]; exact hv) (fun j hj => by rw [hnn.out]; exact HH.out.2 j hj))
        rw [hs.out] at HTK
        have htk : Hid (∀ m', Calls Try.prog 53 #[.pointer (some ⟨pb, 0, none⟩)] (wr.drewN m') fun e w' => e = .returned (tkV (takeL s).1) ∧ LnOut (wr.drewN m') 91 (bs.getD x 0) (Fs x) (takeL s).2 w') := hd (fun m' => by
          rw [← hpb.out, ← hs.out]
          exact rtake_any ((HPr.out.below (below_drewN (below_same wr) m')).lns x hxl) (HG.out.at hxl) (HFW.out _ (lnOf_mem hxl)))
        have HBX : Hid (∀ m', Box2 (wr.drewN m') 52 G 0 0) := hd (fun m' => X.bel (below_drewN (below_same wr) m'))
        obtain ⟨r, hr⟩ : ∃ r, Hid (takeL s = r) := ⟨_, rfl⟩
        rw [hr.out] at htk HTK
        obtain ⟨i2, hi2⟩ : ∃ i2, Hid ((x + 1) % ss.length = i2) := ⟨_, rfl⟩
        have ht2 : ((x : Int) + 1).tmod (n : Int) = (i2 : Int) := by rw [next_tmod, ← hi2.out, hnn.out]
        rw [hi2.out] at HTK
        have HGW : Hid (G < wr.heap.size) := hd X.lt
        clear hv hL
        go_wp2_with fail
        go_quiet (fail)
        go_upto_region 6 with fail
        have hk6 := htk.out nq
        unfold tkV at hk6
        obtain ⟨w1, hw1⟩ : ∃ W, Hid (wr.drewN nq = W) := ⟨_, rfl⟩
        have HB1 : Hid (Below w.heap.size w (wr.drewN nq)) := hd (below_drewN HBW.out nq)
        have HX1 := hd (HBX.out nq)
        have HGW1 : Hid (G < (wr.drewN nq).heap.size) := HGW
        have HP1 := hd (HPr.out.below (below_drewN (below_same wr) nq))
        rw [hw1.out] at hk6 HB1 HX1 HGW1 HP1 ⊢
        obtain ⟨k0, k1⟩ := HP1.out.cells
        rw [hnn.out] at k0
        obtain ⟨g', e', kp⟩ := HP1.out.ptr x hxl
        cases e'
        rw [hpb.out] at kp
        go_upto_region 7 with (first | (go_at_call 53; refine hk6.mono ?_; rintro e2 w2 ⟨rfl, ho⟩; have HO := hd ho; clear ho))
        have HPN : Hid (∃ Fs2, PsTo w 65 91 66 b (some ⟨g, 0, none⟩) cap bs Fs (ss.set x r.2) cur w2 Fs2 ∧ ∀ k, pfp b (some ⟨g, 0, none⟩) ss.length Fs2 k → k < w.heap.size ∨ w1.heap.size ≤ k) := hd (HP.out.laneN HB1.out hxl HO.out)
        have HX2 : Hid (Box2 w2 52 G 0 0) := hd (HX1.out.mod HO.out.1 (fun e => by have := (HP.out.lns x hxl).lt G e; have := hG.out; omega))
        have HX3 : Hid (Box2 (w2.alloc (.cells #[.int .i64 r.1.2.1.1, .int .i64 r.1.2.1.2] 52)) 52 G 0 0 ∧ Box2 (w2.alloc (.cells #[.int .i64 r.1.2.1.1, .int .i64 r.1.2.1.2] 52)) 52 w2.heap.size r.1.2.1.1 r.1.2.1.2 ∧ ∃ Fs2, PsTo w 65 91 66 b (some ⟨g, 0, none⟩) cap bs Fs (ss.set x r.2) cur (w2.alloc (.cells #[.int .i64 r.1.2.1.1, .int .i64 r.1.2.1.2] 52)) Fs2 ∧ ∀ k, pfp b (some ⟨g, 0, none⟩) ss.length Fs2 k → k < w.heap.size ∨ w1.heap.size ≤ k) := hd (by
          obtain ⟨Fs2, h1, h2⟩ := HPN.out
          exact ⟨HX2.out.bel (below_al _ _), box_new _ _ _ _, Fs2, h1.bel (below_al _ _), h2⟩)
        have hGG : G ≠ w2.heap.size := Nat.ne_of_lt HX2.out.lt
        obtain ⟨G3, hG3⟩ : ∃ G3, Hid (w2.heap.size = G3) := ⟨_, rfl⟩
        have hbG3 : G3 ≠ b := by have := hG3.out; have := HB1.out.size; have := HO.out.1.size; omega
        have HG3W : Hid (w1.heap.size ≤ G3) := hd (by have := hG3.out; have := HO.out.1.size; omega)
        obtain ⟨w3, hw3⟩ : ∃ W, Hid (w2.alloc (.cells #[.int .i64 r.1.2.1.1, .int .i64 r.1.2.1.2] 52) = W) := ⟨_, rfl⟩
        rw [hG3.out] at hGG HX3
        rw [hw3.out] at HX3
        rw [hw3.out, hG3.out]
        clear HX2 HPN HO k0 k1 kp
        obtain ⟨q0, q1, q2⟩ : w3.cell? ⟨b, 0, none⟩ = some (.slice (some ⟨g, 0, none⟩) n cap) ∧ w3.cell? ⟨b, 1, none⟩ = some (.int .i64 (cur : Int)) ∧ w3.frozen? ⟨b, 1, none⟩ = false := by
          obtain ⟨_, _, Fs2, h1, _⟩ := HX3.out
          have h2 := h1.at'.cells
          rw [List.length_set, hnn.out] at h2
          exact ⟨h2.1, h2.2, h1.at'.free 1⟩
        have HX4 : Hid (Box2 (w3.setCell ⟨b, 1, none⟩ (.int .i64 (i2 : Int))) 52 G 0 0 ∧ Box2 (w3.setCell ⟨b, 1, none⟩ (.int .i64 (i2 : Int))) 52 G3 r.1.2.1.1 r.1.2.1.2 ∧ ∃ Fs2, PsTo w 65 91 66 b (some ⟨g, 0, none⟩) cap bs Fs (ss.set x r.2) i2 (w3.setCell ⟨b, 1, none⟩ (.int .i64 (i2 : Int))) Fs2 ∧ ∀ k, pfp b (some ⟨g, 0, none⟩) ss.length Fs2 k → k < w.heap.size ∨ w1.heap.size ≤ k) := hd (by
          obtain ⟨h3, h4, Fs2, h1, h2⟩ := HX3.out
          exact ⟨h3.set (Ne.symm hbG) _ _, h4.set hbG3 _ _, Fs2, h1.setCur i2, h2⟩)
        go_upto_region 8 with fail
        obtain ⟨w4, hw4⟩ : ∃ W, Hid (w3.setCell ⟨b, 1, none⟩ (.int .i64 (i2 : Int)) = W) := ⟨_, rfl⟩
        rw [hw4.out] at HX4 ⊢
        clear q0 q1 q2 HX3
        have c0 := HX4.out.1.c0
        have c1 := HX4.out.1.c1
        have f0 := HX4.out.1.fr 0
        have f1 := HX4.out.1.fr 1
        have d0 := HX4.out.2.1.c0
        have d1 := HX4.out.2.1.c1
        go_region_held3 (fun w' => w'.cell? ⟨G3, 0, none⟩ = some (.int .i64 r.1.2.1.1) ∧ w'.cell? ⟨G3, 1, none⟩ = some (.int .i64 r.1.2.1.2)) (go_keep) (fail)
        have HE := hd ((HX4.out.1.put r.1.2.1.1 r.1.2.1.2).bel ((Below.refl _ _).drew))
        have HPF : Hid (PsOut w 65 91 66 b F (ss.set x r.2) i2 ((w4.setCell ⟨G, 0, none⟩ (.int .i64 r.1.2.1.1)).setCell ⟨G, 1, none⟩ (.int .i64 r.1.2.1.2)).drew) := hd (by
          obtain ⟨_, _, Fs2, h1, h2⟩ := HX4.out
          have hng : ¬ pfp b (some ⟨g, 0, none⟩) (ss.set x r.2).length Fs2 G := fun hk => by
            rw [List.length_set] at hk
            have h8 := hG.out
            have h9 := HGW1.out
            rcases h2 G hk with h3 | h3 <;> omega
          exact (((h1.other hng (by have := hG.out; omega) 0 _).other hng (by have := hG.out; omega) 1 _).bel ((Below.refl _ _).drew)).out (by rw [List.length_set]; exact HF.out))
        obtain ⟨w9, hw9⟩ : ∃ W, Hid (((w4.setCell ⟨G, 0, none⟩ (.int .i64 r.1.2.1.1)).setCell ⟨G, 1, none⟩ (.int .i64 r.1.2.1.2)).drew = W) := ⟨_, rfl⟩
        rw [hw9.out] at HE HPF ⊢
        go_wp2_with fail
        have q0 := HE.out.c0
        have q1 := HE.out.c1
        refine bodyPost_ret (v := ptkV (r.1.1, (x : Int), r.1.2.1, r.1.2.2.1, r.1.2.2.2)) (by simp [results, Try.results28, go_sem, ptkV, q0, q1]) rfl ?_
        rw [← hQ.out, HTK.out]
        exact ⟨rfl, HPF.out⟩
    · have hltd : decide ((i : Int) < (n : Int)) = false := by simp; omega
      have hle : (n : Int) ≤ (i : Int) := by omega
      have c0 := X.c0
      have c1 := X.c1
      have f0 := X.fr 0
      have f1 := X.fr 1
      have HX2 := hd X
      clear X
      go_wp2_with fail
      have HE := hd (HX2.out.put 0 0)
      have HB9 : Hid (Below w.heap.size w ((wr.setCell ⟨G, 0, none⟩ (.int .i64 0)).setCell ⟨G, 1, none⟩ (.int .i64 0))) := hd ((HBW.out.setCell (p := ⟨G, 0, none⟩) (by have := hG.out; dsimp only; omega) _).setCell (p := ⟨G, 1, none⟩) (by have := hG.out; dsimp only; omega) _)
      obtain ⟨w9, hw9⟩ : ∃ W, Hid ((wr.setCell ⟨G, 0, none⟩ (.int .i64 0)).setCell ⟨G, 1, none⟩ (.int .i64 0) = W) := ⟨_, rfl⟩
      rw [hw9.out] at HE HB9 ⊢
      have q0 := HE.out.c0
      have q1 := HE.out.c1
      refine bodyPost_ret (v := ptkV (0, 0, (0, 0), false, 21)) (by simp [results, Try.results28, go_sem, ptkV, q0, q1]) rfl ?_
      rw [← hQ.out, takeP_none (fun j hj => by rw [hnn.out]; exact HH.out.2 j (by have := hnn.out; omega))]
      exact ⟨rfl, PsOut.same HPS.out HB9.out⟩
end Go.Proofs.Ytknklbojcnhjcaa
