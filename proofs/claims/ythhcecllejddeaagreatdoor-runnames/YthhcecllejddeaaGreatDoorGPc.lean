/- Wait. -/
import Derived.Test.YthhcecllejddeaaGreatDoorGLc
import Derived.Test.YthhcecllejddeaaGreatDoorGPb
import Derived.Deep.RegionWith
import Derived.Deep.RegionLaw
namespace Go.Proofs.YthhcecllejddeaaGreatDoor.Lane
open Go.RowKit
section
variable {b : Nat} {F : Nat → Prop} {ss : List LS} {cur : Nat} {w : World}
end
end Go.Proofs.YthhcecllejddeaaGreatDoor.Lane

namespace Go.Proofs.YthhcecllejddeaaGreatDoor.Lane
open Go.RowKit
theorem take_snocL {ss : List LS} {i : Nat} (h : i < ss.length) : ss.take (i + 1) = ss.take i ++ [lnOf ss i] := by
 rw [List.take_succ_eq_append_getElem h]
 unfold lnOf
 rw [List.getD_eq_getElem?_getD, List.getElem?_eq_getElem h]
 rfl
def totW (ss : List LS) : Nat := (ss.flatMap (·.ws)).length
theorem tot_mem {ss : List LS} {s : LS} (h : s ∈ ss) : s.ws.length ≤ totW ss := by
 unfold totW
 induction ss with
 | nil => cases h
 | cons x r ih =>
  rw [List.flatMap_cons, List.length_append]
  rcases List.mem_cons.1 h with rfl | h
  ·omega
  ·have := ih h; omega
theorem tot_take (ss : List LS) (i : Nat) : ((ss.take i).flatMap (·.ws)).length ≤ totW ss := by
 unfold totW
 have h : ss.flatMap (·.ws) = (ss.take i).flatMap (·.ws) ++ (ss.drop i).flatMap (·.ws) := by rw [← List.flatMap_append, List.take_append_drop]
 rw [h, List.length_append]
 omega
section
variable {b : Nat} {F : Nat → Prop} {ss : List LS} {cur : Nat} {w : World}
set_option maxRecDepth 100000 in
set_option maxHeartbeats 1000000 in
theorem pleave_any (h : Ps w 214 263 215 b F ss cur) (hn : ss.length ≤ 9) (hfew : totW ss ≤ 7000000000000) (p : Int) :
  Calls Tryz.prog 152 #[.pointer (some ⟨b, 0, none⟩), .int .i64 p] w fun e w' => e = .returned (.bool (leaveP ss p).1) ∧ PsOut w 214 263 215 b F (leaveP ss p).2 cur w' := by
 obtain ⟨a, cap, bs, Fs, h, hF, -⟩ := h
 have HF := hd hF
 obtain ⟨k0, k1⟩ := h.cells
 have HP := hd h.to
 obtain ⟨Q, hQ⟩ : ∃ Q : Ending → World → Prop, Hid ((fun e w' => e = .returned (.bool (leaveP ss p).1) ∧ PsOut w 214 263 215 b F (leaveP ss p).2 cur w') = Q) := ⟨_, rfl⟩
 rw [hQ.out]
 obtain ⟨n, hnn⟩ : ∃ n, Hid (ss.length = n) := ⟨_, rfl⟩
 rw [hnn.out] at hn k0
 clear h hF
 go_enter Tryz.func152, Tryz.ntmps152
 go_wp2_with fail
 go_loopg [5, 13] n (fun k v5 v13 wr => ∃ i : Nat, v13 = .int .i64 (i : Int) ∧ v5 = .bool ((ss.take i).any (fun s => (leaveL s p).1)) ∧ i + k = n ∧ Hid (∃ Fs', PsTo w 214 263 215 b a cap bs Fs (mapTo (fun s => (leaveL s p).2) i ss) cur wr Fs'))
 case atStart => exact ⟨0, rfl, by simp, by omega, hd ⟨Fs, by rw [mapTo_zero]; exact HP.out⟩⟩
 case round =>
  obtain ⟨i, rfl, rfl, hik, HH⟩ := hrel
  obtain ⟨B, hB⟩ : ∃ B, Hid ((ss.take i).any (fun s => (leaveL s p).1) = B) := ⟨_, rfl⟩
  rw [hB.out]
  by_cases hlt : i < n
  ·have hlt' : (i : Int) < (n : Int) := by omega
   obtain ⟨Fs', h1⟩ := HH.out
   have hil : i < ss.length := by rw [hnn.out]; exact hlt
   have him : i < (mapTo (fun s => (leaveL s p).2) i ss).length := by rw [mapTo_len]; exact hil
   obtain ⟨g, rfl, c0⟩ := h1.at'.ptr i him
   have hlv := leave_any (h1.at'.lns i him) p (by rw [mapTo_at _ hil]; have := tot_mem (lnOf_mem hil); omega)
   rw [mapTo_at _ hil] at hlv
   have HN : Hid (∀ w2, LnOut wr 263 (bs.getD i 0) (Fs' i) (leaveL (lnOf ss i) p).2 w2 → ∃ Fs', PsTo w 214 263 215 b (some ⟨g, 0, none⟩) cap bs Fs (mapTo (fun s => (leaveL s p).2) (i + 1) ss) cur w2 Fs') := hd (fun w2 ho => by
    obtain ⟨Fs2, h2⟩ := h1.lane him ho
    rw [mapTo_set (fun s => (leaveL s p).2) hil] at h2
    exact ⟨Fs2, h2⟩)
   have HB2 : Hid ((ss.take (i + 1)).any (fun s => (leaveL s p).1) = (B || (leaveL (lnOf ss i) p).1)) := hd (by rw [take_snocL hil, List.any_append, hB.out]; simp)
   obtain ⟨r, hr⟩ : ∃ r, Hid (leaveL (lnOf ss i) p = r) := ⟨_, rfl⟩
   obtain ⟨pb, hpb⟩ : ∃ p, Hid (bs.getD i 0 = p) := ⟨_, rfl⟩
   rw [hr.out, hpb.out] at hlv HN
   rw [hr.out] at HB2
   rw [hpb.out] at c0
   clear h1 him hil
   obtain ⟨r1, r2⟩ := r
   simp only at hlv HN HB2
   cases r1
   ·go_wp2_with (first | (go_at_call 199; refine hlv.mono ?_; rintro e2 w2 ⟨rfl, ho⟩))
    go_roundg (gk - 1)
    case measure => omega
    case rel => exact ⟨i + 1, by go_num, by rw [HB2.out]; simp, by omega, hd (HN.out _ ho)⟩
   ·go_wp2_with (first | (go_at_call 199; refine hlv.mono ?_; rintro e2 w2 ⟨rfl, ho⟩))
    go_roundg (gk - 1)
    case measure => omega
    case rel => exact ⟨i + 1, by go_num, by rw [HB2.out]; simp, by omega, hd (HN.out _ ho)⟩
  ·have hltd : decide ((i : Int) < (n : Int)) = false := by simp; omega
   have hle : (n : Int) ≤ (i : Int) := by omega
   go_wp2_with fail
   rw [← hQ.out]
   obtain ⟨Fs', h1⟩ := HH.out
   rw [mapTo_all _ (by have := hnn.out; omega)] at h1
   refine ⟨?_, h1.out (by rw [List.length_map]; exact HF.out)⟩
   rw [← hB.out, List.take_of_length_le (by have := hnn.out; omega)]
   rfl
def EndOut (w : World) (TP TL TE : TypeId) (b : Nat) (F : Nat → Prop) (ss : List LS) (cur : Nat) (E : Ending) (w' : World) : Prop :=
 ∃ a c, E = .returned (.slice a (endP ss).1.length c) ∧ Row w' 259 2 a (endP ss).1.length c (wC (endP ss).1) ∧ (∀ k, blk a = some k → w.heap.size ≤ k) ∧ Mod F w w' ∧ ∃ F', Ps w' TP TL TE b F' (endP ss).2 cur ∧ (∀ k, F' k → F k ∨ w.heap.size ≤ k) ∧ ∀ k, blk a = some k → ¬ F' k
set_option maxRecDepth 100000 in
set_option maxHeartbeats 2000000 in
theorem pend_any (h : Ps w 214 263 215 b F ss cur) (hn : ss.length ≤ 9) (hfew : totW ss ≤ 7000000000000) :
    Calls Tryz.prog 156 #[.pointer (some ⟨b, 0, none⟩)] w (EndOut w 214 263 215 b F ss cur) := by
  obtain ⟨a, cap, bs, Fs, h, hF, -⟩ := h
  have HF := hd hF
  obtain ⟨k0, k1⟩ := h.cells
  have HP := hd h.to
  obtain ⟨Q, hQ⟩ : ∃ Q : Ending → World → Prop, Hid (EndOut w 214 263 215 b F ss cur = Q) := ⟨_, rfl⟩
  rw [hQ.out]
  obtain ⟨n, hnn⟩ : ∃ n, Hid (ss.length = n) := ⟨_, rfl⟩
  rw [hnn.out] at hn k0
  clear h hF
  go_enter Tryz.func156, Tryz.ntmps156
  go_wp2_with fail
  go_loopg [3, 11] n (fun k v3 v11 wr => ∃ (i : Nat) (ax : Option Addr) (m cx : Nat), v11 = .int .i64 (i : Int) ∧ v3 = .slice ax m cx ∧ m ≤ 7000000000000 ∧ i + k = n ∧ Hid (m = ((ss.take i).flatMap (·.ws)).length ∧ Row wr 259 2 ax m cx (wC ((ss.take i).flatMap (·.ws))) ∧ (∀ k, blk ax = some k → w.heap.size ≤ k) ∧ ∃ Fs', PsTo w 214 263 215 b a cap bs Fs (mapTo endL i ss) cur wr Fs' ∧ ∀ k, blk ax = some k → ¬ pfp b a ss.length Fs' k))
  case atStart => exact ⟨0, none, 0, 0, rfl, rfl, by omega, by omega, hd ⟨by simp, by simpa [wC] using Row.nil, fun k hk => (by cases hk), Fs, by rw [mapTo_zero]; exact HP.out, fun k hk => by cases hk⟩⟩
  case round =>
    obtain ⟨i, ax, m, cx, rfl, rfl, hm7, hik, HH⟩ := hrel
    by_cases hlt : i < n
    · have hlt' : (i : Int) < (n : Int) := by omega
      obtain ⟨hm, hR, hge, Fs', h1, hnf⟩ := HH.out
      have hil : i < ss.length := by rw [hnn.out]; exact hlt
      have him : i < (mapTo endL i ss).length := by rw [mapTo_len]; exact hil
      obtain ⟨g, rfl, c0⟩ := h1.at'.ptr i him
      have hlw : (lnOf ss i).ws.length ≤ totW ss := tot_mem (lnOf_mem hil)
      have hev := end_any (h1.at'.lns i him) (by rw [mapTo_at _ hil]; omega)
      rw [mapTo_at _ hil] at hev
      have hmm : m + (lnOf ss i).ws.length = ((ss.take (i + 1)).flatMap (·.ws)).length := by
        rw [take_snocL hil, List.flatMap_append, List.length_append, ← hm]
        simp
      have hmm7 : m + (lnOf ss i).ws.length ≤ 7000000000000 := by rw [hmm]; have := tot_take ss (i + 1); omega
      have HN : Hid (∀ w2, Mod (Fs' i) wr w2 → Ln w2 263 (bs.getD i 0) (Fs' i) (endL (lnOf ss i)) → PsTo w 214 263 215 b (some ⟨g, 0, none⟩) cap bs Fs (mapTo endL (i + 1) ss) cur w2 (fun j k => if j = i then Fs' i k else Fs' j k)) := hd (fun w2 hmd hL => by
        have h2 := h1.laneF him hmd hL (fun k hk => .inl hk)
        rwa [mapTo_set endL hil] at h2)
      have HNF : Hid (∀ k, pfp b (some ⟨g, 0, none⟩) ss.length (fun j k => if j = i then Fs' i k else Fs' j k) k → pfp b (some ⟨g, 0, none⟩) ss.length Fs' k) := hd (fun k hk => by
        rcases hk with hk | hk | ⟨j, hj, hk⟩
        · exact .inl hk
        · exact .inr (.inl hk)
        · refine .inr (.inr ⟨j, hj, ?_⟩)
          by_cases e : j = i
          · rw [if_pos e] at hk; rw [e]; exact hk
          · rw [if_neg e] at hk; exact hk)
      have HX : Hid (∀ w2, Mod (Fs' i) wr w2 → Row w2 259 2 ax m cx (wC ((ss.take i).flatMap (·.ws)))) := hd (fun w2 hmd => hR.mod hmd (fun k hk e => hnf k hk (.inr (.inr ⟨i, hil, e⟩))))
      have HLT : Hid (∀ k, pfp b (some ⟨g, 0, none⟩) ss.length Fs' k → k < wr.heap.size) := hd (fun k hk => by have := h1.at'.lt k; rw [mapTo_len] at this; exact this hk)
      have HRL := hd hR.lt
      have HGE := hd hge
      have HNN := hd hnf
      have HSZ := hd h1.mod.size
      obtain ⟨wn, hwn⟩ : ∃ wn, Hid ((lnOf ss i).ws.length = wn) := ⟨_, rfl⟩
      obtain ⟨pb, hpb⟩ : ∃ p, Hid (bs.getD i 0 = p) := ⟨_, rfl⟩
      rw [hwn.out, hpb.out] at hev
      rw [hpb.out] at c0 HN
      rw [hwn.out] at hmm7
      have HMM : Hid (m + wn = ((ss.take (i + 1)).flatMap (·.ws)).length) := hd (by rw [← hwn.out]; exact hmm)
      clear h1 hmm hR hge hnf hm
      go_wp2_with (first
        | (go_at_call 202; refine hev.mono ?_; rintro e2 w2 ⟨g2, rfl, R2, hg2, M2, L2⟩
           have HP2 := hd (HN.out w2 M2 L2)
           have HL2 := hd L2.lt
           have HM2 := hd M2.size
           obtain ⟨a3, c3, w3, hap, R3, M3, B3⟩ := join_w (HX.out w2 M2) R2.rd (m := wn) (c2 := wn) (by rw [wC_len, hwn.out]) (wC_one _) (by omega)
           have HR3 := hd R3
           have HM3 := hd M3
           have HB3 := hd B3
           replace hap := hd hap
           clear R2 L2 R3 M3 B3 M2)
        | (at_builtin; refine wpList_append_run rfl _ _ _ rfl _ _ _ _ rfl rfl hap.out ?_; clear hap))
      go_roundg (gk - 1)
      case measure => omega
      case rel =>
        refine ⟨i + 1, a3, m + wn, c3, by go_num, rfl, by omega, by omega, hd ⟨HMM.out, ?_, ?_, _, HP2.out.modify HM3.out (fun k hk e => ?_) (fun k e => HGE.out k e), fun k hk hk2 => ?_⟩⟩
        · rw [take_snocL hil, List.flatMap_append, wC_app]
          have := HR3.out
          simpa using this
        · intro k hk
          rcases HB3.out k hk with h1 | h1
          · exact HGE.out k h1
          · have := HSZ.out; have := HM2.out; omega
        · rw [mapTo_len] at hk
          exact HNN.out k e (HNF.out k hk)
        · have h4 := HNF.out k hk2
          rcases HB3.out k hk with h1 | h1
          · exact HNN.out k h1 h4
          · have := HLT.out k h4; have := HM2.out; omega
    · have hltd : decide ((i : Int) < (n : Int)) = false := by simp; omega
      have hle : (n : Int) ≤ (i : Int) := by omega
      go_wp2_with fail
      rw [← hQ.out]
      obtain ⟨hm, hR, hge, Fs', h1, hnf⟩ := HH.out
      rw [List.take_of_length_le (by have := hnn.out; omega)] at hm hR
      rw [mapTo_all _ (by have := hnn.out; omega)] at h1
      have hlen : (endP ss).1.length = m := hm.symm
      refine ⟨ax, cx, by rw [hlen], by rw [hlen]; exact hR, hge, h1.mod.mono (fun k _ hk => HF.out k (by rwa [List.length_map] at hk)), _, h1.at'.ps, fun k hk => ?_, fun k hk hk2 => hnf k hk (by rwa [List.length_map] at hk2)⟩
      rcases h1.new k hk with h2 | h2
      · exact .inl (HF.out k (by rwa [List.length_map] at h2))
      · exact .inr h2
end
end Go.Proofs.YthhcecllejddeaaGreatDoor.Lane

namespace Go.Proofs.YthhcecllejddeaaGreatDoor.Lane
open Go.RowKit
def tb (t : TLn) (k : Nat) : Prop := blk t.a1 = some k ∨ blk t.a2 = some k
structure TlAt (B : Nat) (w : World) (l : List TLn) : Prop where
 r1 : ∀ i, i < l.length → Row w 2 1 (tAt l i).a1 (tAt l i).vs.length (tAt l i).c1 (iC (tAt l i).vs)
 r2 : ∀ i, i < l.length → Row w 259 2 (tAt l i).a2 (tAt l i).ws.length (tAt l i).c2 (wC (tAt l i).ws)
 ne : ∀ i, i < l.length → ∀ k, blk (tAt l i).a2 = some k → blk (tAt l i).a1 ≠ some k
 ge : ∀ i, i < l.length → ∀ k, tb (tAt l i) k → B ≤ k
 ap : ∀ i j, i < l.length → j < l.length → i ≠ j → ∀ k, tb (tAt l i) k → ¬ tb (tAt l j) k
theorem tAt_app_lt {l : List TLn} {t : TLn} {i : Nat} (h : i < l.length) : tAt (l ++ [t]) i = tAt l i := by
 unfold tAt
 rw [List.getD_eq_getElem?_getD, List.getD_eq_getElem?_getD, List.getElem?_append_left h]
theorem tAt_app_eq {l : List TLn} {t : TLn} : tAt (l ++ [t]) l.length = t := by
 unfold tAt
 rw [List.getD_eq_getElem?_getD, List.getElem?_append_right (Nat.le_refl _)]
 simp
section
variable {B : Nat} {w w' : World} {l : List TLn}
theorem TlAt.nil (B : Nat) (w : World) : TlAt B w [] := ⟨fun i hi => by simp at hi, fun i hi => by simp at hi, fun i hi => by simp at hi, fun i hi => by simp at hi, fun i j hi => by simp at hi⟩
theorem TlAt.lt (h : TlAt B w l) (i : Nat) (hi : i < l.length) : ∀ k, tb (tAt l i) k → k < w.heap.size := fun k hk => by
 rcases hk with hk | hk
 ·exact (h.r1 i hi).lt k hk
 ·exact (h.r2 i hi).lt k hk
theorem TlAt.mod {S : Nat → Prop} (h : TlAt B w l) (hm : Mod S w w') (hn : ∀ i, i < l.length → ∀ k, tb (tAt l i) k → ¬ S k) : TlAt B w' l :=
 ⟨fun i hi => (h.r1 i hi).mod hm (fun k hk => hn i hi k (.inl hk)), fun i hi => (h.r2 i hi).mod hm (fun k hk => hn i hi k (.inr hk)), h.ne, h.ge, h.ap⟩
theorem TlAt.below (h : TlAt B w l) (hb : Below w.heap.size w w') : TlAt B w' l := h.mod (Mod.of_below (fun _ => False) hb) (fun _ _ _ _ h => h)
theorem TlAt.snoc (h : TlAt B w l) (hB : B ≤ w.heap.size) {vs : List Int} {ws : List (Int × Int)} {a1 a2 : Option Addr} {c1 c2 : Nat} (ho : OwnAL w w' vs ws a1 c1 a2 c2) (tk dr : Int) : TlAt B w' (l ++ [⟨vs, ws, tk, dr, a1, c1, a2, c2⟩]) := by
 have h' := h.below ho.bel
 refine ⟨fun i hi => ?_, fun i hi => ?_, fun i hi => ?_, fun i hi => ?_, fun i j hi hj hij k hk hk2 => ?_⟩
 ·rw [List.length_append] at hi
  simp only [List.length_singleton] at hi
  by_cases e : i = l.length
  ·subst e; rw [tAt_app_eq]; exact ho.vals
  ·rw [tAt_app_lt (by omega)]; exact h'.r1 i (by omega)
 ·rw [List.length_append] at hi
  simp only [List.length_singleton] at hi
  by_cases e : i = l.length
  ·subst e; rw [tAt_app_eq]; exact ho.wts
  ·rw [tAt_app_lt (by omega)]; exact h'.r2 i (by omega)
 ·rw [List.length_append] at hi
  simp only [List.length_singleton] at hi
  by_cases e : i = l.length
  ·subst e; rw [tAt_app_eq]; exact ho.ne
  ·rw [tAt_app_lt (by omega)]; exact h'.ne i (by omega)
 ·rw [List.length_append] at hi
  simp only [List.length_singleton] at hi
  intro k hk
  by_cases e : i = l.length
  ·subst e
   rw [tAt_app_eq] at hk
   rcases hk with hk | hk
   ·exact Nat.le_trans hB (ho.n1 k hk)
   ·exact Nat.le_trans hB (ho.n2 k hk)
  ·rw [tAt_app_lt (by omega)] at hk
   exact h'.ge i (by omega) k hk
 ·rw [List.length_append] at hi hj
  simp only [List.length_singleton] at hi hj
  have new : ∀ k, tb ⟨vs, ws, tk, dr, a1, c1, a2, c2⟩ k → w.heap.size ≤ k := fun k hk => by
   rcases hk with hk | hk
   ·exact ho.n1 k hk
   ·exact ho.n2 k hk
  by_cases e : i = l.length
  ·subst e
   rw [tAt_app_eq] at hk
   rw [tAt_app_lt (by omega)] at hk2
   have := new k hk
   have := h.lt j (by omega) k hk2
   omega
  ·rw [tAt_app_lt (by omega)] at hk
   by_cases e2 : j = l.length
   ·subst e2
    rw [tAt_app_eq] at hk2
    have := new k hk2
    have := h.lt i (by omega) k hk
    omega
   ·rw [tAt_app_lt (by omega)] at hk2
    exact h.ap i j (by omega) (by omega) hij k hk hk2
end
def Tells (l : List TLn) (ss : List LS) : Prop := l.length = ss.length ∧ ∀ i, i < ss.length → (tAt l i).vs = (lnOf ss i).vs ∧ (tAt l i).ws = (lnOf ss i).ws ∧ (tAt l i).tk = (lnOf ss i).tk ∧ (tAt l i).dr = (lnOf ss i).dr
theorem Tells.nil : Tells [] [] := ⟨rfl, fun i hi => by simp at hi⟩
theorem Tells.snoc {l : List TLn} {ss : List LS} (h : Tells l ss) {t : TLn} {s : LS} (h1 : t.vs = s.vs) (h2 : t.ws = s.ws) (h3 : t.tk = s.tk) (h4 : t.dr = s.dr) : Tells (l ++ [t]) (ss ++ [s]) := by
 refine ⟨by simp [h.1], fun i hi => ?_⟩
 rw [List.length_append] at hi
 simp only [List.length_singleton] at hi
 by_cases e : i = ss.length
 ·subst e
  rw [lnOf_app_eq, ← h.1, tAt_app_eq]
  exact ⟨h1, h2, h3, h4⟩
 ·rw [lnOf_app_lt (by omega), tAt_app_lt (by have := h.1; omega)]
  exact h.2 i (by omega)
structure TlOut (w w' : World) (a : Option Addr) (c : Nat) (l : List TLn) : Prop where
 row : Row w' 219 4 a l.length c (tlC l)
 at' : TlAt w.heap.size w' l
 ge : ∀ k, blk a = some k → w.heap.size ≤ k ∧ ∀ i, i < l.length → ¬ tb (tAt l i) k
 bel : Below w.heap.size w w'
theorem tlC_set : ∀ (l : List TLn) (t : TLn) (r : List TLn), ((((tlC (l ++ T0 :: r)).set (l.length * 4) (.slice t.a1 t.vs.length t.c1)).set (l.length * 4 + 1) (.slice t.a2 t.ws.length t.c2)).set (l.length * 4 + 2) (.int .i64 t.tk)).set (l.length * 4 + 3) (.int .i64 t.dr) = tlC (l ++ t :: r) := by
 intro l t r
 have hc : tlC (T0 :: r) = tlP T0 ++ tlC r := by simp [tlC]
 have hc2 : tlC (t :: r) = tlP t ++ tlC r := by simp [tlC]
 rw [tlC_app, tlC_app, hc, hc2]
 have hl := tlC_len l
 rw [List.set_append_right _ _ (by omega), List.set_append_right _ _ (by omega), List.set_append_right _ _ (by omega), List.set_append_right _ _ (by omega), hl]
 rw [show l.length * 4 - l.length * 4 = 0 by omega, show l.length * 4 + 1 - l.length * 4 = 1 by omega, show l.length * 4 + 2 - l.length * 4 = 2 by omega, show l.length * 4 + 3 - l.length * 4 = 3 by omega]
 rfl
structure Fill (w wr : World) (g n : Nat) (l : List TLn) (ss : List LS) : Prop where
 row : Row wr 219 4 (some ⟨g, 0, none⟩) n n (tlC (l ++ List.replicate (n - l.length) T0))
 at' : TlAt w.heap.size wr l
 ge : w.heap.size ≤ g
 nt : ∀ i, i < l.length → ¬ tb (tAt l i) g
 bel : Below w.heap.size w wr
 tel : Tells l ss
theorem Fill.put {w wr w1 : World} {g n : Nat} {l : List TLn} {ss : List LS} (h : Fill w wr g n l ss) (hn : l.length < n) {s : LS} {g1 g2 : Nat} (hT : Told wr w1 s g1 g2) :
  Fill w ((((w1.setCell ⟨g, l.length * 4, none⟩ (.slice (some ⟨g1, 0, none⟩) s.vs.length s.vs.length)).setCell ⟨g, l.length * 4 + 1, none⟩ (.slice (some ⟨g2, 0, none⟩) s.ws.length s.ws.length)).setCell ⟨g, l.length * 4 + 2, none⟩ (.int .i64 s.tk)).setCell ⟨g, l.length * 4 + 3, none⟩ (.int .i64 s.dr)) g n (l ++ [⟨s.vs, s.ws, s.tk, s.dr, some ⟨g1, 0, none⟩, s.vs.length, some ⟨g2, 0, none⟩, s.ws.length⟩]) (ss ++ [s]) := by
 have hgl : g < wr.heap.size := h.row.lt g rfl
 have hk' : ∀ k, k ≠ g → ((((w1.setCell ⟨g, l.length * 4, none⟩ (.slice (some ⟨g1, 0, none⟩) s.vs.length s.vs.length)).setCell ⟨g, l.length * 4 + 1, none⟩ (.slice (some ⟨g2, 0, none⟩) s.ws.length s.ws.length)).setCell ⟨g, l.length * 4 + 2, none⟩ (.int .i64 s.tk)).setCell ⟨g, l.length * 4 + 3, none⟩ (.int .i64 s.dr)).heap[k]? = w1.heap[k]? := fun k hk => by
  rw [Below.heap_setCell _ _ _ _ hk, Below.heap_setCell _ _ _ _ hk, Below.heap_setCell _ _ _ _ hk, Below.heap_setCell _ _ _ _ hk]
 have hsn := h.at'.snoc h.bel.size hT.own s.tk s.dr
 have hng : ∀ i, i < (l ++ [(⟨s.vs, s.ws, s.tk, s.dr, some ⟨g1, 0, none⟩, s.vs.length, some ⟨g2, 0, none⟩, s.ws.length⟩ : TLn)]).length → ¬ tb (tAt (l ++ [⟨s.vs, s.ws, s.tk, s.dr, some ⟨g1, 0, none⟩, s.vs.length, some ⟨g2, 0, none⟩, s.ws.length⟩]) i) g := fun i hi hk => by
  rw [List.length_append] at hi
  simp only [List.length_singleton] at hi
  by_cases e : i = l.length
  ·subst e
   rw [tAt_app_eq] at hk
   rcases hk with hk | hk
   ·have := hT.n1; have e : g1 = g := by simpa [blk] using hk
    omega
   ·have := hT.n2; have e : g2 = g := by simpa [blk] using hk
    omega
  ·rw [tAt_app_lt (by omega)] at hk
   exact h.nt i (by omega) hk
 refine ⟨?_, ?_, h.ge, hng, ?_, h.tel.snoc rfl rfl rfl rfl⟩
 ·have := ((((h.row.below hT.bel).put (l.length * 4) (.slice (some ⟨g1, 0, none⟩) s.vs.length s.vs.length)).put (l.length * 4 + 1) (.slice (some ⟨g2, 0, none⟩) s.ws.length s.ws.length)).put (l.length * 4 + 2) (.int .i64 s.tk)).put (l.length * 4 + 3) (.int .i64 s.dr)
  rw [show n - l.length = (n - (l.length + 1)) + 1 by omega, List.replicate_succ] at this
  have e := tlC_set l ⟨s.vs, s.ws, s.tk, s.dr, some ⟨g1, 0, none⟩, s.vs.length, some ⟨g2, 0, none⟩, s.ws.length⟩ (List.replicate (n - (l.length + 1)) T0)
  simp only at e
  rw [e] at this
  rw [List.length_append, List.append_assoc]
  exact this
 ·exact ⟨fun i hi => (hsn.r1 i hi).kept (fun k hk => hk' k (fun e => hng i hi (.inl (e ▸ hk)))), fun i hi => (hsn.r2 i hi).kept (fun k hk => hk' k (fun e => hng i hi (.inr (e ▸ hk)))), hsn.ne, hsn.ge, hsn.ap⟩
 ·have hge := h.ge
  refine (((((h.bel.trans (hT.bel.mono h.bel.size)).setCell (p := ⟨g, l.length * 4, none⟩) hge _).setCell (p := ⟨g, l.length * 4 + 1, none⟩) hge _).setCell (p := ⟨g, l.length * 4 + 2, none⟩) hge _).setCell (p := ⟨g, l.length * 4 + 3, none⟩) hge _)
section
variable {b : Nat} {F : Nat → Prop} {ss : List LS} {cur : Nat} {w : World}
set_option maxRecDepth 100000 in
set_option maxHeartbeats 2000000 in
theorem pstate_any (h : Ps w 214 263 215 b F ss cur) (hg : GoodP ss cur) (hfew : totW ss ≤ 7000000000000) :
    Calls Tryz.prog 89 #[.pointer (some ⟨b, 0, none⟩)] w fun e w' => ∃ a c l, e = .returned (.tuple #[.slice a ss.length c, .int .i64 (cur : Int)]) ∧ TlOut w w' a c l ∧ Tells l ss := by
  have hn := hg.n2
  obtain ⟨Q, hQ⟩ : ∃ Q : Ending → World → Prop, Hid ((fun e w' => ∃ a c l, e = .returned (.tuple #[.slice a ss.length c, .int .i64 (cur : Int)]) ∧ TlOut w w' a c l ∧ Tells l ss) = Q) := ⟨_, rfl⟩
  rw [hQ.out]
  obtain ⟨a, cap, bs, Fs, h, hF, -⟩ := h
  obtain ⟨n, hnn⟩ : ∃ n, Hid (ss.length = n) := ⟨_, rfl⟩
  have hmk := make_eq 50 219 _ 4 64 Tryz.underlying50 infoA n (by rw [hnn.out] at hn; omega) (by rw [hnn.out] at hn; unfold maxLen; omega) w
  have HP := hd h
  obtain ⟨k0, k1⟩ := h.cells
  have hb0 := below_al w (.cells (madeCells (Value.agg #[.slice none 0 0, .slice none 0 0, .int .i64 0, .int .i64 0]).cells (n * 4)) 219)
  obtain ⟨q0, q1⟩ := (h.below hb0).cells
  have HF0 : Hid (Fill w (w.alloc (.cells (madeCells (Value.agg #[.slice none 0 0, .slice none 0 0, .int .i64 0, .int .i64 0]).cells (n * 4)) 219)) w.heap.size n [] []) := hd
    ⟨by
      have := row_new (e := 219) (size := 4) (n := n) (heap_alloc_new w (.cells (madeCells (Value.agg #[.slice none 0 0, .slice none 0 0, .int .i64 0, .int .i64 0]).cells (n * 4)) 219)) (size_madeCells _ _) (by rw [hnn.out] at hn; unfold maxLen; omega)
      rw [made4] at this
      simpa using this, TlAt.nil _ _, Nat.le_refl _, fun i hi => by simp at hi, hb0, Tells.nil⟩
  obtain ⟨zs, hzs⟩ : ∃ zs, Hid (madeCells (Value.agg #[.slice none 0 0, .slice none 0 0, .int .i64 0, .int .i64 0]).cells (n * 4) = zs) := ⟨_, rfl⟩
  rw [hzs.out] at hmk HF0 q0 q1
  rw [hnn.out] at hn k0 q0
  obtain ⟨G, hG⟩ : ∃ G, Hid (w.heap.size = G) := ⟨_, rfl⟩
  have HCC : Hid (∀ W : World, Below w.heap.size w W → W.cell? ⟨b, 1, none⟩ = some (.int .i64 (cur : Int))) := hd (fun W hb => (HP.out.below hb).cells.2)
  clear h hF hb0
  go_enter Tryz.func89, Tryz.ntmps89
  go_wp2_with fail
  obtain ⟨w0, hw0⟩ : ∃ W, Hid (w.alloc (.cells zs 219) = W) := ⟨_, rfl⟩
  rw [hw0.out] at HF0 ⊢
  rw [hG.out] at HF0 ⊢
  clear hw0 hmk
  go_loopg [5, 6, 18] n (fun k v5 v6 v18 wr => ∃ i : Nat, v18 = .int .i64 (i : Int) ∧ i + k = n ∧ Hid (∃ l, l.length = i ∧ Fill w wr G n l (ss.take i)))
  case atStart => exact ⟨0, rfl, by omega, hd ⟨[], rfl, by simpa using HF0.out⟩⟩
  case round =>
    obtain ⟨i, rfl, hik, HH⟩ := hrel
    obtain ⟨l, hli, hfi⟩ := HH.out
    have HB := hd hfi.bel
    by_cases hlt : i < n
    · have hlt' : (i : Int) < (n : Int) := by omega
      have hil : i < ss.length := by rw [hnn.out]; exact hlt
      obtain ⟨g, rfl, c0⟩ := (HP.out.below hfi.bel).ptr i hil
      have hst := state_any ((HP.out.below hfi.bel).lns i hil) (by have := (hg.at hil).len; have := (hg.at hil).r2; omega) (by have := tot_mem (lnOf_mem hil); omega)
      have HN : Hid (∀ w1 g1 g2, Told wr w1 (lnOf ss i) g1 g2 → (∃ l, l.length = i + 1 ∧ Fill w ((((w1.setCell ⟨G, i * 4, none⟩ (.slice (some ⟨g1, 0, none⟩) (lnOf ss i).vs.length (lnOf ss i).vs.length)).setCell ⟨G, i * 4 + 1, none⟩ (.slice (some ⟨g2, 0, none⟩) (lnOf ss i).ws.length (lnOf ss i).ws.length)).setCell ⟨G, i * 4 + 2, none⟩ (.int .i64 (lnOf ss i).tk)).setCell ⟨G, i * 4 + 3, none⟩ (.int .i64 (lnOf ss i).dr)) G n l (ss.take (i + 1)))
          ∧ (∃ u0 u1 u2 u3, w1.cell? ⟨G, i * 4, none⟩ = some u0 ∧ w1.cell? ⟨G, i * 4 + 1, none⟩ = some u1 ∧ w1.cell? ⟨G, i * 4 + 2, none⟩ = some u2 ∧ w1.cell? ⟨G, i * 4 + 3, none⟩ = some u3) ∧ ∀ j, w1.frozen? ⟨G, j, none⟩ = false) := hd (fun w1 g1 g2 hT => by
        have h1 := hfi.put (by omega) hT
        rw [← take_snocL hil, hli] at h1
        refine ⟨⟨_, by simp [hli], h1⟩, ?_, fun j => (hfi.row.below hT.bel).free j G rfl⟩
        have hr := hfi.row.below hT.bel
        have hc : ∀ j, j < n * 4 → ∃ u, w1.cell? ⟨G, j, none⟩ = some u := fun j hj => by
          obtain ⟨g', e, hc⟩ := hr.cell j hj
          cases e
          have hln := hr.len
          exact ⟨_, hc.trans (List.getElem?_eq_getElem (by omega))⟩
        obtain ⟨u0, c0⟩ := hc (i * 4) (by omega)
        obtain ⟨u1, c1⟩ := hc (i * 4 + 1) (by omega)
        obtain ⟨u2, c2⟩ := hc (i * 4 + 2) (by omega)
        obtain ⟨u3, c3⟩ := hc (i * 4 + 3) (by omega)
        exact ⟨u0, u1, u2, u3, c0, c1, c2, c3⟩)
      obtain ⟨s, hs⟩ : ∃ s, Hid (lnOf ss i = s) := ⟨_, rfl⟩
      obtain ⟨pb, hpb⟩ : ∃ p, Hid (bs.getD i 0 = p) := ⟨_, rfl⟩
      rw [hs.out] at hst HN
      rw [hpb.out] at hst c0
      unfold alV at hst
      obtain ⟨vn, hvn⟩ : ∃ vn, Hid (s.vs.length = vn) := ⟨_, rfl⟩
      obtain ⟨wn, hwn⟩ : ∃ wn, Hid (s.ws.length = wn) := ⟨_, rfl⟩
      rw [hvn.out, hwn.out] at hst HN
      clear hfi hil hli
      go_wp2_with (first | (go_at_call 116; refine hst.mono ?_; rintro e2 w2 ⟨g1, g2, rfl, hT⟩
                            obtain ⟨hnx, ⟨u0, u1, u2, u3, z0, z1, z2, z3⟩, zf⟩ := HN.out _ _ _ hT
                            have HNX := hd hnx
                            clear hnx hT))
      go_roundg (gk - 1)
      case measure => omega
      case rel => exact ⟨i + 1, by go_num, by omega, HNX⟩
    · have hltd : decide ((i : Int) < (n : Int)) = false := by simp; omega
      have hle : (n : Int) ≤ (i : Int) := by omega
      have c1 := HCC.out wr hfi.bel
      have HFI := hd hfi
      have HLI := hd hli
      clear hfi hli
      go_wp2_with fail
      go_quiet (fail)
      go_wp2_with fail
      rw [← hQ.out, hnn.out]
      have hin : i = n := by omega
      have h1 := HFI.out
      have h2 := HLI.out
      rw [List.take_of_length_le (by have := hnn.out; omega)] at h1
      refine ⟨some ⟨G, 0, none⟩, n, l, rfl, ?_, h1.tel⟩
      have hr := h1.row
      rw [h2, hin, Nat.sub_self] at hr
      simp only [List.replicate_zero, List.append_nil] at hr
      have hbl : Below wr.heap.size wr (wr.drewN nq) := below_drewN (below_same wr) nq
      exact ⟨by rw [h2, hin]; exact hr.below hbl, h1.at'.below hbl, fun k hk => by cases hk; exact ⟨h1.ge, h1.nt⟩, h1.bel.trans (hbl.mono h1.bel.size)⟩
end
end Go.Proofs.YthhcecllejddeaaGreatDoor.Lane
