/- The document's side: Leave, End, Some, State. -/
import Derived.Test.YtknklbojcnhjcaaPR3
import Derived.Test.YtknklbojcnhjcaaPF2
namespace Go.Proofs.Ytknklbojcnhjcaa
open Go.RowKit

section
variable {b : Nat} {F : Nat → Prop} {ss : List LS} {cur : Nat} {w : World}
set_option maxRecDepth 100000 in
set_option maxHeartbeats 1000000 in
theorem rpleave_any (h : Ps w 65 91 66 b F ss cur) (hn : ss.length ≤ 9) (hfew : totW ss ≤ 7000000000000) (p : Int) :
    Calls Try.prog 32 #[.pointer (some ⟨b, 0, none⟩), .int .i64 p] w fun e w' => e = .returned (.bool (leaveP ss p).1) ∧ PsOut w 65 91 66 b F (leaveP ss p).2 cur w' := by
  obtain ⟨a, cap, bs, Fs, h, hF, -⟩ := h
  have HF := hd hF
  have HP := hd h.to
  obtain ⟨Q, hQ⟩ : ∃ Q : Ending → World → Prop, Hid ((fun e w' => e = .returned (.bool (leaveP ss p).1) ∧ PsOut w 65 91 66 b F (leaveP ss p).2 cur w') = Q) := ⟨_, rfl⟩
  rw [hQ.out]
  obtain ⟨n, hnn⟩ : ∃ n, Hid (ss.length = n) := ⟨_, rfl⟩
  rw [hnn.out] at hn
  clear h hF
  go_enter Try.func32, Try.ntmps32
  go_wp2_with fail
  go_loopg [5, 6] n (fun k v5 v6 wr => ∃ (i : Nat) (B : Bool), v6 = .int .i64 (i : Int) ∧ v5 = .bool B ∧ i + k = n ∧ Hid (B = ((ss.take i).any (fun s => (leaveL s p).1)) ∧ ∃ Fs', PsTo w 65 91 66 b a cap bs Fs (mapTo (fun s => (leaveL s p).2) i ss) cur wr Fs'))
  case atStart => exact ⟨0, false, rfl, rfl, by omega, hd ⟨by simp, Fs, by rw [mapTo_zero]; exact HP.out⟩⟩
  case round =>
    obtain ⟨i, B, rfl, rfl, hik, HH⟩ := hrel
    obtain ⟨Fs', h1⟩ := HH.out.2
    obtain ⟨k0, -⟩ := h1.at'.cells
    rw [mapTo_len, hnn.out] at k0
    by_cases hlt : i < n
    · have hlt' : (i : Int) < (n : Int) := by omega
      have hil : i < ss.length := by rw [hnn.out]; exact hlt
      have him : i < (mapTo (fun s => (leaveL s p).2) i ss).length := by rw [mapTo_len]; exact hil
      obtain ⟨g, rfl, c0⟩ := h1.at'.ptr i him
      have hlv := rleave_any (h1.at'.lns i him) p (by rw [mapTo_at _ hil]; have := tot_mem (lnOf_mem hil); omega)
      rw [mapTo_at _ hil] at hlv
      have HN : Hid (∀ w2, LnOut wr 91 (bs.getD i 0) (Fs' i) (leaveL (lnOf ss i) p).2 w2 → ∃ Fs', PsTo w 65 91 66 b (some ⟨g, 0, none⟩) cap bs Fs (mapTo (fun s => (leaveL s p).2) (i + 1) ss) cur w2 Fs') := hd (fun w2 ho => by
        obtain ⟨Fs2, h2⟩ := h1.lane him ho
        rw [mapTo_set (fun s => (leaveL s p).2) hil] at h2
        exact ⟨Fs2, h2⟩)
      have HB2 : Hid ((B || (leaveL (lnOf ss i) p).1) = (ss.take (i + 1)).any (fun s => (leaveL s p).1)) := hd (by rw [take_snocL hil, List.any_append, HH.out.1]; simp)
      obtain ⟨r, hr⟩ : ∃ r, Hid (leaveL (lnOf ss i) p = r) := ⟨_, rfl⟩
      obtain ⟨pb, hpb⟩ : ∃ p, Hid (bs.getD i 0 = p) := ⟨_, rfl⟩
      rw [hr.out, hpb.out] at hlv HN
      rw [hr.out] at HB2
      rw [hpb.out] at c0
      clear h1 him hil
      obtain ⟨r1, r2⟩ := r
      simp only at hlv HN HB2
      cases B
      · go_wp2_with (first | (go_at_call 58; refine hlv.mono ?_; rintro e2 w2 ⟨rfl, ho⟩))
        go_roundg (gk - 1)
        case measure => omega
        case rel => exact ⟨i + 1, r1, by go_num, rfl, by omega, hd ⟨by rw [← HB2.out]; simp, HN.out _ ho⟩⟩
      · go_wp2_with (first | (go_at_call 58; refine hlv.mono ?_; rintro e2 w2 ⟨rfl, ho⟩))
        go_roundg (gk - 1)
        case measure => omega
        case rel => exact ⟨i + 1, true, by go_num, rfl, by omega, hd ⟨by rw [← HB2.out]; simp, HN.out _ ho⟩⟩
    · have hltd : decide ((i : Int) < (n : Int)) = false := by simp; omega
      have hle : (n : Int) ≤ (i : Int) := by omega
      go_wp2_with fail
      rw [← hQ.out]
      rw [mapTo_all _ (by have := hnn.out; omega)] at h1
      refine ⟨?_, h1.out (by rw [List.length_map]; exact HF.out)⟩
      have h2 := HH.out.1
      rw [List.take_of_length_le (by have := hnn.out; omega)] at h2
      rw [h2]
      rfl

set_option maxRecDepth 100000 in
set_option maxHeartbeats 2000000 in
theorem rpend_any (h : Ps w 65 91 66 b F ss cur) (hn : ss.length ≤ 9) (hfew : totW ss ≤ 7000000000000) :
    Calls Try.prog 34 #[.pointer (some ⟨b, 0, none⟩)] w (EndOut w 65 91 66 b F ss cur) := by
  obtain ⟨a, cap, bs, Fs, h, hF, -⟩ := h
  have HF := hd hF
  have HP := hd h.to
  have HPA := hd h
  obtain ⟨Q, hQ⟩ : ∃ Q : Ending → World → Prop, Hid (EndOut w 65 91 66 b F ss cur = Q) := ⟨_, rfl⟩
  rw [hQ.out]
  obtain ⟨n, hnn⟩ : ∃ n, Hid (ss.length = n) := ⟨_, rfl⟩
  rw [hnn.out] at hn
  have HR0 : Hid (Row (w.alloc (.cells #[] 52)) 52 2 (some ⟨w.heap.size, 0, none⟩) 0 0 (wC [])) := hd (by
    have := row_new (e := 52) (size := 2) (n := 0) (heap_alloc_new w (.cells #[] 52)) (by simp) (by unfold maxLen; omega)
    simpa [wC] using this)
  have HB0 : Hid (Below w.heap.size w (w.alloc (.cells #[] 52))) := hd (below_al w _)
  clear h hF
  go_enter Try.func34, Try.ntmps34
  go_wp2_with fail
  go_loopg [3, 4] n (fun k v3 v4 wr => ∃ (i : Nat) (ax : Option Addr) (m cx : Nat), v4 = .int .i64 (i : Int) ∧ v3 = .slice ax m cx ∧ m ≤ 7000000000000 ∧ i + k = n ∧ Hid (m = ((ss.take i).flatMap (·.ws)).length ∧ Row wr 52 2 ax m cx (wC ((ss.take i).flatMap (·.ws))) ∧ (∀ k, blk ax = some k → w.heap.size ≤ k) ∧ ∃ Fs', PsTo w 65 91 66 b a cap bs Fs (mapTo endL i ss) cur wr Fs' ∧ ∀ k, blk ax = some k → ¬ pfp b a ss.length Fs' k))
  case atStart => exact ⟨0, _, 0, 0, rfl, rfl, by omega, by omega, hd ⟨by simp, by simpa using HR0.out, fun k hk => (by cases hk; exact Nat.le_refl _), Fs, by rw [mapTo_zero]; exact HP.out.bel HB0.out, fun k hk hf => by cases hk; have := HPA.out.lt _ hf; simp at this⟩⟩
  case round =>
    obtain ⟨i, ax, m, cx, rfl, rfl, hm7, hik, HH⟩ := hrel
    obtain ⟨hm, hR, hge, Fs', h1, hnf⟩ := HH.out
    obtain ⟨k0, -⟩ := h1.at'.cells
    rw [mapTo_len, hnn.out] at k0
    by_cases hlt : i < n
    · have hlt' : (i : Int) < (n : Int) := by omega
      have hil : i < ss.length := by rw [hnn.out]; exact hlt
      have him : i < (mapTo endL i ss).length := by rw [mapTo_len]; exact hil
      obtain ⟨g, rfl, c0⟩ := h1.at'.ptr i him
      have hlw : (lnOf ss i).ws.length ≤ totW ss := tot_mem (lnOf_mem hil)
      have hev := rend_any (h1.at'.lns i him)
      rw [mapTo_at _ hil] at hev
      have hmm : m + (lnOf ss i).ws.length = ((ss.take (i + 1)).flatMap (·.ws)).length := by
        rw [take_snocL hil, List.flatMap_append, List.length_append, ← hm]
        simp
      have hmm7 : m + (lnOf ss i).ws.length ≤ 7000000000000 := by rw [hmm]; have := tot_take ss (i + 1); omega
      have HN : Hid (∀ w2, Mod (Fs' i) wr w2 → Ln w2 91 (bs.getD i 0) (Fs' i) (endL (lnOf ss i)) → PsTo w 65 91 66 b (some ⟨g, 0, none⟩) cap bs Fs (mapTo endL (i + 1) ss) cur w2 (fun j k => if j = i then Fs' i k else Fs' j k)) := hd (fun w2 hmd hL => by
        have h2 := h1.laneF him hmd hL (fun k hk => .inl hk)
        rwa [mapTo_set endL hil] at h2)
      have HNF : Hid (∀ k, pfp b (some ⟨g, 0, none⟩) ss.length (fun j k => if j = i then Fs' i k else Fs' j k) k → pfp b (some ⟨g, 0, none⟩) ss.length Fs' k) := hd (fun k hk => by
        rcases hk with hk | hk | ⟨j, hj, hk⟩
        · exact .inl hk
        · exact .inr (.inl hk)
        · refine .inr (.inr ⟨j, hj, ?_⟩)
          by_cases e : j = i
          · rw [if_pos e] at hk; rw [e]; exact hk
          · rw [if_neg e] at hk; exact hk)
      have HX : Hid (∀ w2, Mod (Fs' i) wr w2 → Row w2 52 2 ax m cx (wC ((ss.take i).flatMap (·.ws)))) := hd (fun w2 hmd => hR.mod hmd (fun k hk e => hnf k hk (.inr (.inr ⟨i, hil, e⟩))))
      have HLT : Hid (∀ k, pfp b (some ⟨g, 0, none⟩) ss.length Fs' k → k < wr.heap.size) := hd (fun k hk => by have := h1.at'.lt k; rw [mapTo_len] at this; exact this hk)
      have HGE := hd hge
      have HNN := hd hnf
      have HSZ := hd h1.mod.size
      obtain ⟨wn, hwn⟩ : ∃ wn, Hid ((lnOf ss i).ws.length = wn) := ⟨_, rfl⟩
      obtain ⟨pb, hpb⟩ : ∃ p, Hid (bs.getD i 0 = p) := ⟨_, rfl⟩
      rw [hwn.out, hpb.out] at hev
      rw [hpb.out] at c0 HN
      rw [hwn.out] at hmm7
      have HMM : Hid (m + wn = ((ss.take (i + 1)).flatMap (·.ws)).length) := hd (by rw [← hwn.out]; exact hmm)
      clear h1 hmm hR hge hnf hm
      go_wp2_with (first
        | (go_at_call 60; refine hev.mono ?_; rintro e2 w2 ⟨a2, c2, rfl, R2, hF2, M2, L2⟩
           have HP2 := hd (HN.out w2 M2 L2)
           have HM2 := hd M2.size
           obtain ⟨a3, c3, w3, hap, R3, M3, B3⟩ := join_w (HX.out w2 M2) R2 (m := wn) (c2 := c2) (by rw [wC_len, hwn.out]) (wC_one _) (by omega)
           have HR3 := hd R3
           have HM3 := hd M3
           have HB3 := hd B3
           replace hap := hd hap
           clear R2 L2 R3 M3 B3 M2 hF2)
        | (at_builtin; refine wpList_append_run rfl _ _ _ rfl _ _ _ _ rfl rfl hap.out ?_; clear hap))
      go_roundg (gk - 1)
      case measure => omega
      case rel =>
        refine ⟨i + 1, a3, m + wn, c3, by go_num, rfl, by omega, by omega, hd ⟨HMM.out, ?_, ?_, _, HP2.out.modify HM3.out (fun k hk e => ?_) (fun k e => HGE.out k e), fun k hk hk2 => ?_⟩⟩
        · rw [take_snocL hil, List.flatMap_append, wC_app]
          have := HR3.out
          simpa using this
        · intro k hk
          rcases HB3.out k hk with h1 | h1
          · exact HGE.out k h1
          · have := HSZ.out; have := HM2.out; omega
        · rw [mapTo_len] at hk
          exact HNN.out k e (HNF.out k hk)
        · have h4 := HNF.out k hk2
          rcases HB3.out k hk with h1 | h1
          · exact HNN.out k h1 h4
          · have := HLT.out k h4; have := HM2.out; omega
    · have hltd : decide ((i : Int) < (n : Int)) = false := by simp; omega
      have hle : (n : Int) ≤ (i : Int) := by omega
      have HALL := hd HH.out
      clear hm hR hge h1 hnf
      go_wp2_with fail
      rw [← hQ.out]
      obtain ⟨hm, hR, hge, Fs', h1, hnf⟩ := HALL.out
      rw [List.take_of_length_le (by have := hnn.out; omega)] at hm hR
      rw [mapTo_all _ (by have := hnn.out; omega)] at h1
      have hlen : (endP ss).1.length = m := hm.symm
      refine ⟨ax, cx, by rw [hlen], by rw [hlen]; exact hR, hge, h1.mod.mono (fun k _ hk => HF.out k (by rwa [List.length_map] at hk)), _, h1.at'.ps, fun k hk => ?_, fun k hk hk2 => hnf k hk (by rwa [List.length_map] at hk2)⟩
      rcases h1.new k hk with h2 | h2
      · exact .inl (HF.out k (by rwa [List.length_map] at h2))
      · exact .inr h2

theorem someP_yes {i : Nat} (hi : i < ss.length) (h : (lnOf ss i).vs ≠ []) : someP ss = true := by
  unfold someP
  rw [List.any_eq_true]
  exact ⟨_, lnOf_mem hi, by simpa using h⟩
theorem someP_no (h : ∀ j, j < ss.length → (lnOf ss j).vs = []) : someP ss = false := by
  unfold someP
  rw [List.any_eq_false]
  intro s hs
  obtain ⟨j, hj, e⟩ := List.getElem_of_mem hs
  have es : lnOf ss j = s := by unfold lnOf; rw [List.getD_eq_getElem?_getD, List.getElem?_eq_getElem hj, ← e]; rfl
  rw [← es, h j hj]
  simp
set_option maxRecDepth 100000 in
set_option maxHeartbeats 1000000 in
theorem rpsome_any (h : Ps w 65 91 66 b F ss cur) (hn : ss.length ≤ 9) :
    Calls Try.prog 35 #[.pointer (some ⟨b, 0, none⟩)] w fun e w' => e = .returned (.bool (someP ss)) ∧ w' = w := by
  obtain ⟨a, cap, bs, Fs, h, hF, -⟩ := h
  have HP := hd h
  obtain ⟨k0, k1⟩ := h.cells
  obtain ⟨B, hB⟩ : ∃ B, Hid (someP ss = B) := ⟨_, rfl⟩
  rw [hB.out]
  obtain ⟨n, hnn⟩ : ∃ n, Hid (ss.length = n) := ⟨_, rfl⟩
  rw [hnn.out] at hn k0
  clear h hF
  go_enter Try.func35, Try.ntmps35
  go_wp2_with fail
  go_loopg [3] n (fun k v3 wr => ∃ i : Nat, v3 = .int .i64 (i : Int) ∧ i + k = n ∧ wr = w ∧ Hid (∀ j, j < i → (lnOf ss j).vs = []))
  case atStart => exact ⟨0, rfl, by omega, rfl, hd (fun j hj => by omega)⟩
  case round =>
    obtain ⟨i, rfl, hik, hwr, HH⟩ := hrel
    obtain rfl : w = wr := hwr.symm
    by_cases hlt : i < n
    · have hlt' : (i : Int) < (n : Int) := by omega
      have hil : i < ss.length := by rw [hnn.out]; exact hlt
      obtain ⟨g, rfl, kp⟩ := HP.out.ptr i hil
      obtain ⟨a1, c1, a2, c2, hL, -, -⟩ := HP.out.lns i hil
      obtain ⟨-, l1, -, -, -⟩ := hL.cells
      obtain ⟨s, hs⟩ : ∃ s, Hid (lnOf ss i = s) := ⟨_, rfl⟩
      obtain ⟨pb, hpb⟩ : ∃ q, Hid (bs.getD i 0 = q) := ⟨_, rfl⟩
      rw [hs.out, hpb.out] at l1
      rw [hpb.out] at kp
      obtain ⟨vn, hvn⟩ : ∃ vn, Hid (s.vs.length = vn) := ⟨_, rfl⟩
      rw [hvn.out] at l1
      clear hL
      by_cases hv : s.vs = []
      · have hv0 : vn = 0 := by rw [← hvn.out, hv]; rfl
        subst hv0
        have HV := hd hv
        clear hv hil
        go_wp2_with fail
        go_roundg (gk - 1)
        case measure => omega
        case rel => exact ⟨i + 1, by go_num, by omega, rfl, hd (fun j hj => by
          by_cases e : j = i
          · rw [e, hs.out]; exact HV.out
          · exact HH.out j (by omega))⟩
      · have h2 : 0 < vn := by rw [← hvn.out]; exact List.length_pos_iff.2 hv
        have h2' : (0 : Int) < (vn : Int) := by omega
        have HBt : Hid (B = true) := hd (by rw [← hB.out]; exact someP_yes hil (by rw [hs.out]; exact hv))
        clear hv hil
        go_wp2_with fail
        go_ret
        exact ⟨by rw [HBt.out]; rfl, rfl⟩
    · have hltd : decide ((i : Int) < (n : Int)) = false := by simp; omega
      have hle : (n : Int) ≤ (i : Int) := by omega
      have HBf : Hid (B = false) := hd (by rw [← hB.out]; exact someP_no (fun j hj => HH.out j (by have := hnn.out; omega)))
      go_wp2_with fail
      go_ret
      exact ⟨by rw [HBf.out]; rfl, rfl⟩

set_option maxRecDepth 100000 in
set_option maxHeartbeats 2000000 in
theorem rpstate_any (h : Ps w 65 91 66 b F ss cur) (hg : GoodP ss cur) (hfew : totW ss ≤ 7000000000000) :
    Calls Try.prog 36 #[.pointer (some ⟨b, 0, none⟩)] w fun e w' => ∃ a c l, e = .returned (.tuple #[.slice a ss.length c, .int .i64 (cur : Int)]) ∧ TlOut w w' a c l ∧ Tells l ss := by
  have hn := hg.n2
  obtain ⟨Q, hQ⟩ : ∃ Q : Ending → World → Prop, Hid ((fun e w' => ∃ a c l, e = .returned (.tuple #[.slice a ss.length c, .int .i64 (cur : Int)]) ∧ TlOut w w' a c l ∧ Tells l ss) = Q) := ⟨_, rfl⟩
  rw [hQ.out]
  obtain ⟨a, cap, bs, Fs, h, hF, -⟩ := h
  obtain ⟨n, hnn⟩ : ∃ n, Hid (ss.length = n) := ⟨_, rfl⟩
  have HP := hd h
  have HT0 := hd (TlOut.new w)
  rw [hnn.out] at hn
  clear h hF
  go_enter Try.func36, Try.ntmps36
  go_wp2_with fail
  go_loopg [4, 5] n (fun k v4 v5 wr => ∃ (i : Nat) (ax : Option Addr) (cx : Nat), v5 = .int .i64 (i : Int) ∧ v4 = .slice ax i cx ∧ i + k = n ∧ Hid (∃ l, l.length = i ∧ TlOut w wr ax cx l ∧ Tells l (ss.take i)))
  case atStart => exact ⟨0, _, 0, rfl, rfl, by omega, hd ⟨[], rfl, HT0.out, by simpa using Tells.nil⟩⟩
  case round =>
    obtain ⟨i, ax, cx, rfl, rfl, hik, HH⟩ := hrel
    obtain ⟨l, hli, hO, hT⟩ := HH.out
    obtain ⟨k0, k1⟩ := (HP.out.below hO.bel).cells
    rw [hnn.out] at k0
    by_cases hlt : i < n
    · have hlt' : (i : Int) < (n : Int) := by omega
      have hil : i < ss.length := by rw [hnn.out]; exact hlt
      obtain ⟨g, rfl, kp⟩ := (HP.out.below hO.bel).ptr i hil
      obtain ⟨d1, e1, d2, e2, hL, -, -⟩ := (HP.out.below hO.bel).lns i hil
      obtain ⟨-, l1, l2, l3, l4⟩ := hL.cells
      have hcp := copy_any (tk := (lnOf ss i).tk) (dr := (lnOf ss i).dr) (c1 := e1) (c2 := e2) (w := wr) ⟨hL.vals.rd, hL.wts.rd⟩ (by have := (hg.at hil).len; have := (hg.at hil).r2; omega) (by have := tot_mem (lnOf_mem hil); omega)
      have HN : Hid (∀ (w1 : World) (a1 a2 : Option Addr) (c1 c2 : Nat), OwnAL wr w1 (lnOf ss i).vs (lnOf ss i).ws a1 c1 a2 c2 → ∃ a' c' w2, (∀ ty, (Builtin.append_ #[22, 22] ty #[.slice ax i cx, .slice (some ⟨w1.heap.size, 0, none⟩) 1 1]).run Try.prog (w1.alloc (.cells #[.slice a1 (lnOf ss i).vs.length c1, .slice a2 (lnOf ss i).ws.length c2, .int .i64 (lnOf ss i).tk, .int .i64 (lnOf ss i).dr] 29)) = .ok (.slice a' (i + 1) c') w2) ∧ ∃ l, l.length = i + 1 ∧ TlOut w w2 a' c' l ∧ Tells l (ss.take (i + 1))) := hd (fun w1 a1 a2 c1 c2 ho => by
        have hR := hO.row.below ho.bel
        rw [hli] at hR
        obtain ⟨a3, c3, w3, hap, R3, M3, B3⟩ := push_any (us := [.slice a1 (lnOf ss i).vs.length c1, .slice a2 (lnOf ss i).ws.length c2, .int .i64 (lnOf ss i).tk, .int .i64 (lnOf ss i).dr]) Try.underlying22 infoA rfl (by decide) hR (by omega) rfl (fun u hu => by simp at hu; rcases hu with rfl | rfl | rfl | rfl <;> rfl)
        refine ⟨a3, c3, w3, hap, l ++ [⟨(lnOf ss i).vs, (lnOf ss i).ws, (lnOf ss i).tk, (lnOf ss i).dr, a1, c1, a2, c2⟩], by simp [hli], hO.push ho _ _ (by rw [hli]; exact R3) M3 B3, ?_⟩
        rw [take_snocL hil]
        exact hT.snoc rfl rfl rfl rfl)
      obtain ⟨s, hs⟩ : ∃ s, Hid (lnOf ss i = s) := ⟨_, rfl⟩
      obtain ⟨pb, hpb⟩ : ∃ p, Hid (bs.getD i 0 = p) := ⟨_, rfl⟩
      rw [hs.out, hpb.out] at l1 l2 l3 l4
      rw [hs.out] at hcp HN
      rw [hpb.out] at kp
      obtain ⟨vn, hvn⟩ : ∃ vn, Hid (s.vs.length = vn) := ⟨_, rfl⟩
      obtain ⟨wn, hwn⟩ : ∃ wn, Hid (s.ws.length = wn) := ⟨_, rfl⟩
      rw [hvn.out] at l1 hcp HN
      rw [hwn.out] at l2 hcp HN
      clear hO hT hL hli hil
      go_wp2_with (first
        | (go_at_call 7; refine hcp.mono ?_; rintro e3 w3 ⟨x1, y1, x2, y2, rfl, ho⟩
           obtain ⟨a', c', w4, hap, HX⟩ := HN.out _ _ _ _ _ ho
           replace hap := hd hap
           replace HX := hd HX
           clear ho)
        | (at_builtin; refine wpList_append_run rfl _ _ _ rfl _ _ _ _ rfl rfl hap.out ?_; clear hap))
      go_roundg (gk - 1)
      case measure => omega
      case rel => exact ⟨i + 1, a', c', by go_num, rfl, by omega, HX⟩
    · have hltd : decide ((i : Int) < (n : Int)) = false := by simp; omega
      have hle : (n : Int) ≤ (i : Int) := by omega
      have HO := hd hO
      have HT := hd hT
      have HLI := hd hli
      clear hO hT hli
      go_wp2_with fail
      go_quiet (fail)
      go_wp2_with fail
      rw [← hQ.out, hnn.out]
      have hin : i = n := by omega
      have h2 := HT.out
      rw [List.take_of_length_le (by have := hnn.out; omega)] at h2
      exact ⟨ax, cx, l, by rw [hin]; rfl, HO.out.bel' (below_drewN (below_same wr) nq), h2⟩
end
end Go.Proofs.Ytknklbojcnhjcaa
