/- Leave, End. -/
import Derived.Test.YtknklbojcnhjcaaPWA
import Derived.Test.YtknklbojcnhjcaaLR3
namespace Go.Proofs.Ytknklbojcnhjcaa
open Go.RowKit

theorem take_snocL {ss : List LS} {i : Nat} (h : i < ss.length) : ss.take (i + 1) = ss.take i ++ [lnOf ss i] := by
  rw [List.take_succ_eq_append_getElem h]
  unfold lnOf
  rw [List.getD_eq_getElem?_getD, List.getElem?_eq_getElem h]
  rfl
/-- How many wait in all. -/
def totW (ss : List LS) : Nat := (ss.flatMap (·.ws)).length
theorem tot_mem {ss : List LS} {s : LS} (h : s ∈ ss) : s.ws.length ≤ totW ss := by
  unfold totW
  induction ss with
  | nil => cases h
  | cons x r ih =>
    rw [List.flatMap_cons, List.length_append]
    rcases List.mem_cons.1 h with rfl | h
    · omega
    · have := ih h; omega
theorem tot_few {ss : List LS} {N : Nat} (h : totW ss ≤ N) : FewP ss N := fun _ hs => Nat.le_trans (tot_mem hs) h
theorem tot_take (ss : List LS) (i : Nat) : ((ss.take i).flatMap (·.ws)).length ≤ totW ss := by
  unfold totW
  have h : ss.flatMap (·.ws) = (ss.take i).flatMap (·.ws) ++ (ss.drop i).flatMap (·.ws) := by rw [← List.flatMap_append, List.take_append_drop]
  rw [h, List.length_append]
  omega

section
variable {b : Nat} {F : Nat → Prop} {ss : List LS} {cur : Nat} {w : World}
set_option maxRecDepth 100000 in
set_option maxHeartbeats 1000000 in
theorem pleave_any (h : Ps w 59 89 60 b F ss cur) (hn : ss.length ≤ 9) (hfew : totW ss ≤ 7000000000000) (p : Int) :
    Calls Try.prog 31 #[.pointer (some ⟨b, 0, none⟩), .int .i64 p] w fun e w' => e = .returned (.bool (leaveP ss p).1) ∧ PsOut w 59 89 60 b F (leaveP ss p).2 cur w' := by
  obtain ⟨a, cap, bs, Fs, h, hF, -⟩ := h
  have HF := hd hF
  obtain ⟨k0, k1⟩ := h.cells
  have HP := hd h.to
  obtain ⟨Q, hQ⟩ : ∃ Q : Ending → World → Prop, Hid ((fun e w' => e = .returned (.bool (leaveP ss p).1) ∧ PsOut w 59 89 60 b F (leaveP ss p).2 cur w') = Q) := ⟨_, rfl⟩
  rw [hQ.out]
  obtain ⟨n, hnn⟩ : ∃ n, Hid (ss.length = n) := ⟨_, rfl⟩
  rw [hnn.out] at hn k0
  clear h hF
  go_enter Try.func31, Try.ntmps31
  go_wp2_with fail
  go_loopg [5, 13] n (fun k v5 v13 wr => ∃ i : Nat, v13 = .int .i64 (i : Int) ∧ v5 = .bool ((ss.take i).any (fun s => (leaveL s p).1)) ∧ i + k = n ∧ Hid (∃ Fs', PsTo w 59 89 60 b a cap bs Fs (mapTo (fun s => (leaveL s p).2) i ss) cur wr Fs'))
  case atStart => exact ⟨0, rfl, by simp, by omega, hd ⟨Fs, by rw [mapTo_zero]; exact HP.out⟩⟩
  case round =>
    obtain ⟨i, rfl, rfl, hik, HH⟩ := hrel
    obtain ⟨B, hB⟩ : ∃ B, Hid ((ss.take i).any (fun s => (leaveL s p).1) = B) := ⟨_, rfl⟩
    rw [hB.out]
    by_cases hlt : i < n
    · have hlt' : (i : Int) < (n : Int) := by omega
      obtain ⟨Fs', h1⟩ := HH.out
      have hil : i < ss.length := by rw [hnn.out]; exact hlt
      have him : i < (mapTo (fun s => (leaveL s p).2) i ss).length := by rw [mapTo_len]; exact hil
      obtain ⟨g, rfl, c0⟩ := h1.at'.ptr i him
      have hlv := leave_any (h1.at'.lns i him) p (by rw [mapTo_at _ hil]; have := tot_mem (lnOf_mem hil); omega)
      rw [mapTo_at _ hil] at hlv
      have HN : Hid (∀ w2, LnOut wr 89 (bs.getD i 0) (Fs' i) (leaveL (lnOf ss i) p).2 w2 → ∃ Fs', PsTo w 59 89 60 b (some ⟨g, 0, none⟩) cap bs Fs (mapTo (fun s => (leaveL s p).2) (i + 1) ss) cur w2 Fs') := hd (fun w2 ho => by
        obtain ⟨Fs2, h2⟩ := h1.lane him ho
        rw [mapTo_set (fun s => (leaveL s p).2) hil] at h2
        exact ⟨Fs2, h2⟩)
      have HB2 : Hid ((ss.take (i + 1)).any (fun s => (leaveL s p).1) = (B || (leaveL (lnOf ss i) p).1)) := hd (by rw [take_snocL hil, List.any_append, hB.out]; simp)
      obtain ⟨r, hr⟩ : ∃ r, Hid (leaveL (lnOf ss i) p = r) := ⟨_, rfl⟩
      obtain ⟨pb, hpb⟩ : ∃ p, Hid (bs.getD i 0 = p) := ⟨_, rfl⟩
      rw [hr.out, hpb.out] at hlv HN
      rw [hr.out] at HB2
      rw [hpb.out] at c0
      clear h1 him hil
      obtain ⟨r1, r2⟩ := r
      simp only at hlv HN HB2
      cases r1
      · go_wp2_with (first | (go_at_call 57; refine hlv.mono ?_; rintro e2 w2 ⟨rfl, ho⟩))
        go_roundg (gk - 1)
        case measure => omega
        case rel => exact ⟨i + 1, by go_num, by rw [HB2.out]; simp, by omega, hd (HN.out _ ho)⟩
      · go_wp2_with (first | (go_at_call 57; refine hlv.mono ?_; rintro e2 w2 ⟨rfl, ho⟩))
        go_roundg (gk - 1)
        case measure => omega
        case rel => exact ⟨i + 1, by go_num, by rw [HB2.out]; simp, by omega, hd (HN.out _ ho)⟩
    · have hltd : decide ((i : Int) < (n : Int)) = false := by simp; omega
      have hle : (n : Int) ≤ (i : Int) := by omega
      go_wp2_with fail
      rw [← hQ.out]
      obtain ⟨Fs', h1⟩ := HH.out
      rw [mapTo_all _ (by have := hnn.out; omega)] at h1
      refine ⟨?_, h1.out (by rw [List.length_map]; exact HF.out)⟩
      rw [← hB.out, List.take_of_length_le (by have := hnn.out; omega)]
      rfl

/-- What End tells: those who waited, in memory of its own. -/
def EndOut (w : World) (TP TL TE : TypeId) (b : Nat) (F : Nat → Prop) (ss : List LS) (cur : Nat) (E : Ending) (w' : World) : Prop :=
  ∃ a c, E = .returned (.slice a (endP ss).1.length c) ∧ Row w' 52 2 a (endP ss).1.length c (wC (endP ss).1) ∧ (∀ k, blk a = some k → w.heap.size ≤ k) ∧ Mod F w w' ∧ ∃ F', Ps w' TP TL TE b F' (endP ss).2 cur ∧ (∀ k, F' k → F k ∨ w.heap.size ≤ k) ∧ ∀ k, blk a = some k → ¬ F' k

set_option maxRecDepth 100000 in
set_option maxHeartbeats 2000000 in
theorem pend_any (h : Ps w 59 89 60 b F ss cur) (hn : ss.length ≤ 9) (hfew : totW ss ≤ 7000000000000) :
    Calls Try.prog 33 #[.pointer (some ⟨b, 0, none⟩)] w (EndOut w 59 89 60 b F ss cur) := by
  obtain ⟨a, cap, bs, Fs, h, hF, -⟩ := h
  have HF := hd hF
  obtain ⟨k0, k1⟩ := h.cells
  have HP := hd h.to
  obtain ⟨Q, hQ⟩ : ∃ Q : Ending → World → Prop, Hid (EndOut w 59 89 60 b F ss cur = Q) := ⟨_, rfl⟩
  rw [hQ.out]
  obtain ⟨n, hnn⟩ : ∃ n, Hid (ss.length = n) := ⟨_, rfl⟩
  rw [hnn.out] at hn k0
  clear h hF
  go_enter Try.func33, Try.ntmps33
  go_wp2_with fail
  go_loopg [3, 11] n (fun k v3 v11 wr => ∃ (i : Nat) (ax : Option Addr) (m cx : Nat), v11 = .int .i64 (i : Int) ∧ v3 = .slice ax m cx ∧ m ≤ 7000000000000 ∧ i + k = n ∧ Hid (m = ((ss.take i).flatMap (·.ws)).length ∧ Row wr 52 2 ax m cx (wC ((ss.take i).flatMap (·.ws))) ∧ (∀ k, blk ax = some k → w.heap.size ≤ k) ∧ ∃ Fs', PsTo w 59 89 60 b a cap bs Fs (mapTo endL i ss) cur wr Fs' ∧ ∀ k, blk ax = some k → ¬ pfp b a ss.length Fs' k))
  case atStart => exact ⟨0, none, 0, 0, rfl, rfl, by omega, by omega, hd ⟨by simp, by simpa [wC] using Row.nil, fun k hk => (by cases hk), Fs, by rw [mapTo_zero]; exact HP.out, fun k hk => by cases hk⟩⟩
  case round =>
    obtain ⟨i, ax, m, cx, rfl, rfl, hm7, hik, HH⟩ := hrel
    by_cases hlt : i < n
    · have hlt' : (i : Int) < (n : Int) := by omega
      obtain ⟨hm, hR, hge, Fs', h1, hnf⟩ := HH.out
      have hil : i < ss.length := by rw [hnn.out]; exact hlt
      have him : i < (mapTo endL i ss).length := by rw [mapTo_len]; exact hil
      obtain ⟨g, rfl, c0⟩ := h1.at'.ptr i him
      have hlw : (lnOf ss i).ws.length ≤ totW ss := tot_mem (lnOf_mem hil)
      have hev := end_any (h1.at'.lns i him) (by rw [mapTo_at _ hil]; omega)
      rw [mapTo_at _ hil] at hev
      have hmm : m + (lnOf ss i).ws.length = ((ss.take (i + 1)).flatMap (·.ws)).length := by
        rw [take_snocL hil, List.flatMap_append, List.length_append, ← hm]
        simp
      have hmm7 : m + (lnOf ss i).ws.length ≤ 7000000000000 := by rw [hmm]; have := tot_take ss (i + 1); omega
      have HN : Hid (∀ w2, Mod (Fs' i) wr w2 → Ln w2 89 (bs.getD i 0) (Fs' i) (endL (lnOf ss i)) → PsTo w 59 89 60 b (some ⟨g, 0, none⟩) cap bs Fs (mapTo endL (i + 1) ss) cur w2 (fun j k => if j = i then Fs' i k else Fs' j k)) := hd (fun w2 hmd hL => by
        have h2 := h1.laneF him hmd hL (fun k hk => .inl hk)
        rwa [mapTo_set endL hil] at h2)
      have HNF : Hid (∀ k, pfp b (some ⟨g, 0, none⟩) ss.length (fun j k => if j = i then Fs' i k else Fs' j k) k → pfp b (some ⟨g, 0, none⟩) ss.length Fs' k) := hd (fun k hk => by
        rcases hk with hk | hk | ⟨j, hj, hk⟩
        · exact .inl hk
        · exact .inr (.inl hk)
        · refine .inr (.inr ⟨j, hj, ?_⟩)
          by_cases e : j = i
          · rw [if_pos e] at hk; rw [e]; exact hk
          · rw [if_neg e] at hk; exact hk)
      have HX : Hid (∀ w2, Mod (Fs' i) wr w2 → Row w2 52 2 ax m cx (wC ((ss.take i).flatMap (·.ws)))) := hd (fun w2 hmd => hR.mod hmd (fun k hk e => hnf k hk (.inr (.inr ⟨i, hil, e⟩))))
      have HLT : Hid (∀ k, pfp b (some ⟨g, 0, none⟩) ss.length Fs' k → k < wr.heap.size) := hd (fun k hk => by have := h1.at'.lt k; rw [mapTo_len] at this; exact this hk)
      have HRL := hd hR.lt
      have HGE := hd hge
      have HNN := hd hnf
      have HSZ := hd h1.mod.size
      obtain ⟨wn, hwn⟩ : ∃ wn, Hid ((lnOf ss i).ws.length = wn) := ⟨_, rfl⟩
      obtain ⟨pb, hpb⟩ : ∃ p, Hid (bs.getD i 0 = p) := ⟨_, rfl⟩
      rw [hwn.out, hpb.out] at hev
      rw [hpb.out] at c0 HN
      rw [hwn.out] at hmm7
      have HMM : Hid (m + wn = ((ss.take (i + 1)).flatMap (·.ws)).length) := hd (by rw [← hwn.out]; exact hmm)
      clear h1 hmm hR hge hnf hm
      go_wp2_with (first
        | (go_at_call 59; refine hev.mono ?_; rintro e2 w2 ⟨g2, rfl, R2, hg2, M2, L2⟩
           have HP2 := hd (HN.out w2 M2 L2)
           have HL2 := hd L2.lt
           have HM2 := hd M2.size
           obtain ⟨a3, c3, w3, hap, R3, M3, B3⟩ := join_w (HX.out w2 M2) R2.rd (m := wn) (c2 := wn) (by rw [wC_len, hwn.out]) (wC_one _) (by omega)
           have HR3 := hd R3
           have HM3 := hd M3
           have HB3 := hd B3
           replace hap := hd hap
           clear R2 L2 R3 M3 B3 M2)
        | (at_builtin; refine wpList_append_run rfl _ _ _ rfl _ _ _ _ rfl rfl hap.out ?_; clear hap))
      go_roundg (gk - 1)
      case measure => omega
      case rel =>
        refine ⟨i + 1, a3, m + wn, c3, by go_num, rfl, by omega, by omega, hd ⟨HMM.out, ?_, ?_, _, HP2.out.modify HM3.out (fun k hk e => ?_) (fun k e => HGE.out k e), fun k hk hk2 => ?_⟩⟩
        · rw [take_snocL hil, List.flatMap_append, wC_app]
          have := HR3.out
          simpa using this
        · intro k hk
          rcases HB3.out k hk with h1 | h1
          · exact HGE.out k h1
          · have := HSZ.out; have := HM2.out; omega
        · rw [mapTo_len] at hk
          exact HNN.out k e (HNF.out k hk)
        · have h4 := HNF.out k hk2
          rcases HB3.out k hk with h1 | h1
          · exact HNN.out k h1 h4
          · have := HLT.out k h4; have := HM2.out; omega
    · have hltd : decide ((i : Int) < (n : Int)) = false := by simp; omega
      have hle : (n : Int) ≤ (i : Int) := by omega
      go_wp2_with fail
      rw [← hQ.out]
      obtain ⟨hm, hR, hge, Fs', h1, hnf⟩ := HH.out
      rw [List.take_of_length_le (by have := hnn.out; omega)] at hm hR
      rw [mapTo_all _ (by have := hnn.out; omega)] at h1
      have hlen : (endP ss).1.length = m := hm.symm
      refine ⟨ax, cx, by rw [hlen], by rw [hlen]; exact hR, hge, h1.mod.mono (fun k _ hk => HF.out k (by rwa [List.length_map] at hk)), _, h1.at'.ps, fun k hk => ?_, fun k hk hk2 => hnf k hk (by rwa [List.length_map] at hk2)⟩
      rcases h1.new k hk with h2 | h2
      · exact .inl (HF.out k (by rwa [List.length_map] at h2))
      · exact .inr h2
end
end Go.Proofs.Ytknklbojcnhjcaa
