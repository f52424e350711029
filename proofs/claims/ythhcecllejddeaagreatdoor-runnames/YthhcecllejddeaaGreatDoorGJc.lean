/- End. -/
import Derived.Test.YthhcecllejddeaaGreatDoorGJb
namespace Go.Proofs.YthhcecllejddeaaGreatDoor.Locks
open Go.RowKit Go.Maps
structure EndI (w wr : World) (b m : Nat) (ao : Option Addr) (co : Nat) (aq : Option Addr) (cq : Nat) (es0 : List Qe) (os : List Int) (qs : Qs) (hl : List Int) (ah : Option Addr) (nh ch : Nat) (out : List (Int × Int)) (a : Option Addr) (n c : Nat) : Prop where
 ex : ∃ es, LM wr b m ao co aq cq os es (wtI qs) (total qs) ∧ qsOf es = qs ∧ (∀ k, mfp b m ao aq es k → mfp b m ao aq es0 k ∨ w.heap.size ≤ k) ∧ (∀ k, blk ah = some k → ¬ mfp b m ao aq es k) ∧ (∀ k, blk a = some k → ¬ mfp b m ao aq es k)
 good : GoodL os qs
 mod : Mod (mfp b m ao aq es0) w wr
 held : Row wr 3 1 ah nh ch (iC hl)
 hlen : hl.length = nh
 row : Row wr 256 2 a n c (wC out)
 olen : out.length = n
 ap : ∀ k, blk ah = some k → blk a ≠ some k
 anew : ∀ k, blk a = some k → w.heap.size ≤ k
section
variable {w wr w' : World} {b m : Nat} {ao : Option Addr} {co : Nat} {aq : Option Addr} {cq : Nat} {es0 : List Qe} {os : List Int} {qs : Qs} {hl : List Int} {ah : Option Addr} {nh ch : Nat} {out : List (Int × Int)} {a : Option Addr} {n c : Nat}
theorem EndI.hand (h : EndI w wr b m ao co aq cq es0 os qs hl ah nh ch out a n c) {i : Nat} (hi : i < os.length) (ht : total qs ≤ 8796093022208) :
  Calls Tryz.prog 201 #[.pointer (some ⟨b, 0, none⟩), .int .i64 (i : Int)] wr fun e w' => e = .returned (.tuple #[]) ∧ EndI w w' b m ao co aq cq es0 (handO os qs i) (handQ qs i) hl ah nh ch out a n c := by
 obtain ⟨es, h1, h2, h3, h4, h5⟩ := h.ex
 refine (hand_any h1 h.good h2 hi ht).mono ?_
 rintro e w' ⟨rfl, es', t1, t2, t3, t4⟩
 have hah := h.held.lt
 have ha := h.row.lt
 refine ⟨rfl, ⟨es', t1, t2, fun k hk => ?_, fun k hk hm => ?_, fun k hk hm => ?_⟩, h.good.hand i, h.mod.trans t3 (fun k hk => h3 k hk), h.held.mod t3 h4, h.hlen, h.row.mod t3 h5, h.olen, h.ap, h.anew⟩
 ·rcases t4 k hk with h6 | h6
  ·exact h3 k h6
  ·exact .inr (Nat.le_trans h.mod.size h6)
 ·rcases t4 k hm with h6 | h6
  ·exact h4 k hk h6
  ·have := hah k hk; omega
 ·rcases t4 k hm with h6 | h6
  ·exact h5 k hk h6
  ·have := ha k hk; omega
theorem EndI.push (h : EndI w wr b m ao co aq cq es0 os qs hl ah nh ch out a n c) (hn : n < 1000) (x y : Int) :
  ∃ a' c' w', (∀ ty, (Builtin.append_ #[253, 253] ty #[.slice a n c, .slice (some ⟨wr.heap.size, 0, none⟩) 1 1]).run Tryz.prog (wr.alloc (.cells #[.int .i64 x, .int .i64 y] 256)) = .ok (.slice a' (n + 1) c') w') ∧ EndI w w' b m ao co aq cq es0 os qs hl ah nh ch (out ++ [(x, y)]) a' (n + 1) c' := by
 obtain ⟨es, h1, h2, h3, h4, h5⟩ := h.ex
 obtain ⟨a', c', w', m1, m2, m3, m4⟩ := push_any (T := 253) Tryz.underlying253 infoG rfl h.row (by unfold maxLen; omega) (by omega) [.int .i64 x, .int .i64 y] rfl (by simp [Value.oneCell'])
 have hnew : ∀ k, mfp b m ao aq es k ∨ blk ah = some k → blk a' ≠ some k := fun k hk e => by
  rcases m4 k e with h6 | h6
  ·rcases hk with hk | hk
   ·exact h5 k h6 hk
   ·exact h.ap k hk h6
  ·rcases hk with hk | hk
   ·have := h1.lt k hk; omega
   ·have := h.held.lt k hk; omega
 refine ⟨a', c', w', m1, ⟨es, h1.mod m3 (fun k hk e => h5 k e hk), h2, h3, h4, fun k hk hm => hnew k (.inl hm) hk⟩, h.good, h.mod.trans m3 (fun k hk => .inr (h.anew k hk)), h.held.mod m3 h.ap, h.hlen, by rw [wC_app]; exact m2, by simp [h.olen], fun k hk => hnew k (.inr hk), fun k hk => ?_⟩
 rcases m4 k hk with h6 | h6
 ·exact h.anew k h6
 ·exact Nat.le_trans h.mod.size h6
end
theorem endF_drop {hl os : List Int} {qs : Qs} {out : List (Int × Int)} {i j : Nat} (hi : i < hl.length) (hj : hl.getD i 0 = (j : Int)) : endF (hl.drop i) os qs out = endF (hl.drop (i + 1)) (handO os qs j) (handQ qs j) (out ++ [((j : Int), oAt (handO os qs j) j)]) := by
 have e : hl.drop i = (j : Int) :: hl.drop (i + 1) := by
  rw [List.drop_eq_getElem_cons hi, ← hj, List.getD_eq_getElem?_getD, List.getElem?_eq_getElem hi]; rfl
 rw [e]
 show endF (hl.drop (i + 1)) (handO os qs (j : Int).toNat) (handQ qs (j : Int).toNat) (out ++ [((j : Int), oAt (handO os qs (j : Int).toNat) (j : Int).toNat)]) = _
 rw [Int.toNat_natCast]
theorem hold_at {os : List Int} {p : Int} {i : Nat} (hi : i < (hold os p).length) : ∃ j : Nat, (hold os p).getD i 0 = (j : Int) ∧ j < os.length := by
 have : (hold os p).getD i 0 ∈ hold os p := by
  rw [List.getD_eq_getElem?_getD, List.getElem?_eq_getElem hi]; exact List.getElem_mem hi
 obtain ⟨j, h1, h2, -, -⟩ := mem_holdTo.1 this
 exact ⟨j, h1, h2⟩
def EndOut (w : World) (b : Nat) (F : Nat → Prop) (os' : List Int) (qs' : Qs) (out : List (Int × Int)) (e : Ending) (w' : World) : Prop :=
 Mod F w w' ∧ ∃ F' a c, e = .returned (.slice a out.length c) ∧ Lk w' b F' os' qs' ∧ (∀ k, F' k → F k ∨ w.heap.size ≤ k) ∧ Row w' 256 2 a out.length c (wC out) ∧ ∀ k, blk a = some k → w.heap.size ≤ k ∧ ¬ F' k
set_option maxRecDepth 100000 in
set_option maxHeartbeats 4000000 in
theorem end_any {w : World} {b : Nat} {F : Nat → Prop} {os : List Int} {qs : Qs} (h : Lk w b F os qs) (ht : total qs ≤ 8796093022208) {p : Int} (hp : Fit64 p) :
    Calls Tryz.prog 153 #[.pointer (some ⟨b, 0, none⟩), .int .i64 p] w fun e w' => EndOut w b F (endA os qs p).1 (endA os qs p).2.1 (endA os qs p).2.2 e w' := by
  obtain ⟨hG, m, ao, co, aq, cq, es, hL, hq, hF, -⟩ := h
  have hwt := waits_any hL hp
  have HL := hd hL
  have HG := hd hG
  have HQ := hd hq
  have HF := hd hF
  have HP := hd hp
  have HTL : Hid (total (awayQ qs p) ≤ 8796093022208) := hd (Nat.le_trans (total_away qs p) ht)
  obtain ⟨R, hR⟩ : ∃ R, Hid (endA os qs p = R) := ⟨_, rfl⟩
  rw [hR.out]
  obtain ⟨v1, hv1⟩ : ∃ v1, Hid ((wtI qs p).getD 0 = v1) := ⟨_, rfl⟩
  obtain ⟨v2, hv2⟩ : ∃ v2, Hid ((wtI qs p).isSome = v2) := ⟨_, rfl⟩
  rw [hv1.out, hv2.out] at hwt
  have HT := hd ht
  clear hL hG hq hF hp ht
  go_enter Tryz.func153, Tryz.ntmps153
  go_upto_if 16 with (first | (go_at_call 174; refine hwt.mono ?_; rintro e3 w3 ⟨rfl, rfl⟩))
  go_cut [17, 18, 19, 20] (fun v17 v18 v19 v20 wy => Hid (LT w3 b m ao co aq cq es os (awayQ qs p) wy))
  case first =>
    cases hw : wt qs p with
    | none =>
      obtain rfl : v2 = false := by rw [← hv2.out]; unfold wtI; rw [hw]; rfl
      have HE : Hid (LT w3 b m ao co aq cq es os (awayQ qs p) w3) := hd (by
        have e : awayQ qs p = qs := by unfold awayQ; rw [hw]
        rw [e]
        exact ⟨es, HL.out, HQ.out, Mod.refl _ _, fun k hk => .inl hk⟩)
      clear hw HL HG HQ HF HP HTL hR hv1 hv2 HT
      go_wp2_with fail
      go_meet
      case rel => exact HE
    | some i =>
      obtain rfl : v2 = true := by rw [← hv2.out]; unfold wtI; rw [hw]; rfl
      obtain rfl : v1 = (i : Int) := by rw [← hv1.out]; unfold wtI; rw [hw]; rfl
      have hm := (wt_some HG.out.once).1 hw
      have hil := qAt_lt hm
      have hqa : qAt qs i = (eAt es i).2.2 := by rw [← HQ.out, qAt_of]
      have hlv := leave_any HL.out (i := i) (by rw [← qsOf_len, HQ.out]; exact hil) HP.out (by rw [← hqa]; exact hm) (by rw [← hqa]; exact HG.out.nd i) (by rw [← hqa]; exact Nat.le_trans (total_le i) HT.out)
      have HE : Hid (∀ w', LeaveTo w3 b m ao co aq cq os es (wtI qs) (total qs) i p w' → LT w3 b m ao co aq cq es os (awayQ qs p) w') := hd (fun w' hl => by
        have e : awayQ qs p = leaveQ qs i p := by unfold awayQ; rw [hw]
        rw [e]
        exact leave_LT HG.out HQ.out hm hl)
      clear hw HL HG HQ HF HP HTL hR hv1 hv2 HT hm hil hqa
      go_wp2_with (first | (go_at_call 200; refine hlv.mono ?_; rintro e4 w4 ⟨rfl, hl4⟩))
      go_meet
      case rel => exact hd (HE.out _ hl4)
  case rest =>
    clear hwt hv1 hv2 HT HP
    obtain ⟨es1, t1, t2, t3, t4⟩ := hcut.out
    have hG1 := HG.out.away p
    have hho := holds_any t1.lb hG1.le (fun i => (hG1.oFit i).1) p
    have HI : Hid (∀ ah nh ch w', OwnI wc (hold os p) w' ah nh ch → EndI w3 w' b m ao co aq cq es os (awayQ qs p) (hold os p) ah nh ch [] none 0 0) := hd (fun ah nh ch w' ho => by
      obtain ⟨h1, h2, h3, h4⟩ := ho
      refine ⟨⟨es1, t1.below h3, t2, t4, fun k hk hm => ?_, fun k hk => by cases hk⟩, hG1, t3.after h3, h2, h1, Row.nil, rfl, (fun k _ e => by cases e), (fun k hk => by cases hk)⟩
      have := t1.lt k hm
      have := h4 k hk
      omega)
    have HLE : Hid ((hold os p).length ≤ 8) := hd (Nat.le_trans (holdTo_len _ _ _) HG.out.le)
    have HNO : Hid (os.length ≤ 8) := hd HG.out.le
    clear hcut t1 t2 t3 t4 hG1 HL HG HQ
    go_wp2_with (first | (go_at_call 195; refine hho.mono ?_; rintro e5 w5 ⟨ah, nh, ch, rfl, ho5⟩))
    have HS := hd (HI.out ah nh ch w5 ho5)
    have hnh : nh ≤ 8 := by rw [← ho5.1]; exact HLE.out
    have HNH := hd ho5.1
    clear hho HI ho5
    go_loopg [7, 9, 25, 26, 27, 28, 29, 30, 31, 32, 33, 34, 35, 36, 37, 38, 39, 40, 41, 42, 43, 44] nh (fun k v7 v9 v25 v26 v27 v28 v29 v30 v31 v32 v33 v34 v35 v36 v37 v38 v39 v40 v41 v42 v43 v44 wr => ∃ (i c : Nat) (a : Option Addr), i + k = nh ∧ v25 = .int .i64 (i : Int) ∧ v7 = .slice a i c ∧ Hid (∃ osk qsk outk, EndI w3 wr b m ao co aq cq es osk qsk (hold os p) ah nh ch outk a i c ∧ osk.length = os.length ∧ total qsk ≤ 8796093022208 ∧ endF ((hold os p).drop i) osk qsk outk = R))
    case atStart => exact ⟨0, 0, none, by omega, by go_num, rfl, hd ⟨os, awayQ qs p, [], HS.out, rfl, HTL.out, by rw [List.drop_zero]; exact hR.out⟩⟩
    case round =>
      obtain ⟨i, c, a, hik, rfl, rfl, HX⟩ := hrel
      clear HS
      by_cases h0 : gk = 0
      · subst h0
        have hi : i = nh := by omega
        subst hi
        have HE : Hid (EndOut w3 b F R.1 R.2.1 R.2.2 (.returned (.slice a i c)) wr) := hd (by
          obtain ⟨osk, qsk, outk, h1, h2, h3, h4⟩ := HX.out
          rw [List.drop_of_length_le (by rw [HNH.out]; omega)] at h4
          rw [← h4]
          obtain ⟨es2, s1, s2, s3, s4, s5⟩ := h1.ex
          refine ⟨h1.mod.mono (fun k _ hk => HF.out k hk), mfp b m ao aq es2, a, c, by rw [show (endF [] osk qsk outk).2.2 = outk from rfl, h1.olen], ⟨h1.good, m, ao, co, aq, cq, es2, s1, s2, fun _ h => h, s1.lt⟩, fun k hk => ?_, ?_, fun k hk => ⟨h1.anew k hk, s5 k hk⟩⟩
          · rcases s3 k hk with h5 | h5
            · exact .inl (HF.out k h5)
            · exact .inr h5
          · show Row wr 256 2 a outk.length c (wC outk)
            rw [h1.olen]
            exact h1.row)
        clear hik HX hR HTL HLE HNH HF
        go_wp2_with fail
        go_ret
        exact HE.out
      · have hlt : i < nh := by omega
        obtain ⟨osk, qsk, outk, h1, h2, h3, h4⟩ := HX.out
        obtain ⟨j, hj, hjl⟩ := hold_at (os := os) (p := p) (i := i) (by rw [HNH.out]; exact hlt)
        obtain ⟨gh, rfl, chd⟩ := h1.held.cell i (by omega)
        rw [iC_at _ i (by rw [HNH.out]; exact hlt) 0, hj] at chd
        have hha := h1.hand (i := j) (by rw [h2]; exact hjl) h3
        rw [endF_drop (by rw [HNH.out]; exact hlt) hj] at h4
        have hj8 : j < 8 := by have := HNO.out; omega
        have h2' : (handO osk qsk j).length = os.length := by rw [handO_len]; exact h2
        have h3' : total (handQ qsk j) ≤ 8796093022208 := Nat.le_trans (total_sub (List.tail_sublist _)) h3
        obtain ⟨ov, hov⟩ : ∃ ov, Hid (oAt (handO osk qsk j) j = ov) := ⟨_, rfl⟩
        rw [hov.out] at h4
        obtain ⟨os2, hos2⟩ : ∃ os2, Hid (handO osk qsk j = os2) := ⟨_, rfl⟩
        obtain ⟨qs2, hqs2⟩ : ∃ qs2, Hid (handQ qsk j = qs2) := ⟨_, rfl⟩
        rw [hos2.out] at h4 h2' hov hha
        rw [hqs2.out] at h4 h3' hha
        obtain ⟨no, hno⟩ : ∃ no, Hid (os.length = no) := ⟨_, rfl⟩
        have hjn : j < no := by rw [← hno.out]; exact hjl
        have HH4 := hd h4
        have HH2 := hd h2'
        have HH3 := hd h3'
        clear h1 h2 h3 h4 h2' h3' hj HX h0 hos2 hqs2 hjl
        go_wp2_with (first
          | (go_at_call 201; refine hha.mono ?_; rintro e6 w6 ⟨rfl, hI6⟩
             have HI6 := hd hI6
             obtain ⟨es6, s1, -⟩ := hI6.ex
             have d0 := s1.lb.c0
             obtain ⟨go, ego, dj⟩ := s1.lb.owner j (by rw [HH2.out, hno.out]; exact hjn)
             subst ego
             rw [HH2.out, hno.out] at d0
             rw [hov.out] at dj
             obtain ⟨a', c', w7, hap, hI7⟩ := hI6.push (by omega) (j : Int) ov
             replace hap := hd hap
             have HI7 := hd hI7
             clear s1 hI6 hI7)
          | (at_builtin; refine wpList_append_run rfl _ _ _ rfl _ _ _ _ rfl rfl hap.out ?_; clear hap))
        go_roundg (gk - 1)
        case rel => exact ⟨i + 1, c', a', by omega, by go_num, rfl, hd ⟨os2, qs2, _, HI7.out, HH2.out, HH3.out, HH4.out⟩⟩
        case measure => omega
end Go.Proofs.YthhcecllejddeaaGreatDoor.Locks

namespace Go.Proofs.YthhcecllejddeaaGreatDoor.Locks
open Go.RowKit Go.Maps
structure QL (w : World) (B lo : Nat) (a : Option Addr) (c : Nat) (es : List Qe) : Prop where
 row : Row w 24 1 a es.length c (sC es)
 qs : ∀ i, lo ≤ i → i < es.length → Qw w (eAt es i)
 nb : ∀ k, blk a = some k → B ≤ k
 qb : ∀ i, lo ≤ i → i < es.length → ∀ k, blk (eAt es i).1 = some k → B ≤ k ∧ blk a ≠ some k
 qq : ∀ i j, lo ≤ i → lo ≤ j → i < es.length → j < es.length → i ≠ j → ∀ k, blk (eAt es i).1 = some k → blk (eAt es j).1 ≠ some k
def qfp (lo : Nat) (a : Option Addr) (es : List Qe) (k : Nat) : Prop := blk a = some k ∨ ∃ i, lo ≤ i ∧ i < es.length ∧ blk (eAt es i).1 = some k
section
variable {w w' : World} {B lo : Nat} {a : Option Addr} {c : Nat} {es : List Qe}
theorem QL.lt (h : QL w B lo a c es) : ∀ k, qfp lo a es k → k < w.heap.size := fun k hk => by
 rcases hk with hk | ⟨i, h1, h2, hk⟩
 ·exact h.row.lt k hk
 ·exact (h.qs i h1 h2).lt k hk
theorem QL.ge (h : QL w B lo a c es) : ∀ k, qfp lo a es k → B ≤ k := fun k hk => by
 rcases hk with hk | ⟨i, h1, h2, hk⟩
 ·exact h.nb k hk
 ·exact (h.qb i h1 h2 k hk).1
theorem QL.mod {S : Nat → Prop} (h : QL w B lo a c es) (hm : Mod S w w') (hn : ∀ k, qfp lo a es k → ¬ S k) : QL w' B lo a c es :=
 ⟨h.row.mod hm (fun k hk => hn k (.inl hk)), fun i h1 h2 => (h.qs i h1 h2).mod hm (fun k hk => hn k (.inr ⟨i, h1, h2, hk⟩)), h.nb, h.qb, h.qq⟩
theorem QL.below (h : QL w B lo a c es) (hb : Below w.heap.size w w') : QL w' B lo a c es := h.mod (Mod.of_below (fun _ => False) hb) (fun _ _ h => h)
theorem QL.cell (h : QL w B lo a c es) (i : Nat) (hi : i < es.length) : ∃ g, a = some ⟨g, 0, none⟩ ∧ w.cell? ⟨g, i, none⟩ = some (.slice (eAt es i).1 (eAt es i).2.2.length (eAt es i).2.1) ∧ w.frozen? ⟨g, i, none⟩ = false := by
 obtain ⟨g, rfl, h0⟩ := h.row.cell i (by omega)
 exact ⟨g, rfl, by rw [h0, sC_at es i hi]; rfl, h.row.free i g rfl⟩
theorem QL.put {g : Nat} (h : QL w B lo (some ⟨g, 0, none⟩) c es) {i : Nat} (hi : i < es.length) {e' : Qe} (hq : Qw w e') (hn : ∀ k, blk e'.1 = some k → B ≤ k ∧ ¬ qfp lo (some ⟨g, 0, none⟩) es k) :
  QL (w.setCell ⟨g, i, none⟩ (sV e')) B lo (some ⟨g, 0, none⟩) c (es.set i e') := by
 have hm : Mod (fun k => k = g) w (w.setCell ⟨g, i, none⟩ (sV e')) := (Mod.refl (fun k => k = g) w).setCell (.inl rfl) _
 have hp := h.row.put i (sV e')
 rw [sC_set] at hp
 refine ⟨by rw [List.length_set]; exact hp, fun j h1 hj => ?_, h.nb, fun j h1 hj k hk => ?_, fun j l h1 h2 hj hl hjl k hk => ?_⟩
 ·rw [List.length_set] at hj
  rw [eAt_set hi]
  split
  ·exact hq.mod hm (fun k hk e => (hn k hk).2 (.inl (by rw [e]; rfl)))
  ·exact (h.qs j h1 hj).mod hm (fun k hk e => (h.qb j h1 hj k hk).2 (by rw [e]; rfl))
 ·rw [List.length_set] at hj
  rw [eAt_set hi] at hk
  split at hk
  ·exact ⟨(hn k hk).1, fun e => (hn k hk).2 (.inl e)⟩
  ·exact h.qb j h1 hj k hk
 ·rw [List.length_set] at hj hl
  rw [eAt_set hi] at hk ⊢
  split at hk
  ·rw [if_neg (by omega)]
   exact fun e => (hn k hk).2 (.inr ⟨l, h2, hl, e⟩)
  ·split
   ·exact fun e => (hn k e).2 (.inr ⟨j, h1, hj, hk⟩)
   ·exact h.qq j l h1 h2 hj hl hjl k hk
end
structure Told (w : World) (os : List Int) (qs : Qs) (w' : World) (a1 : Option Addr) (c1 : Nat) (a2 : Option Addr) (c2 : Nat) (es : List Qe) : Prop where
 own : Row w' 3 1 a1 os.length c1 (iC os)
 ql : QL w' w.heap.size 0 a2 c2 es
 qs : qsOf es = qs
 new : ∀ k, blk a1 = some k → w.heap.size ≤ k ∧ ¬ qfp 0 a2 es k
 bel : Below w.heap.size w w'
theorem made_nils (n : Nat) : (madeCells (Value.slice none 0 0).cells (n * 1)).toList = sC (List.replicate n (none, 0, [])) := by
 rw [sC, List.map_replicate, Nat.mul_one]
 apply List.ext_getElem?
 intro i
 unfold madeCells
 by_cases h : i < n
 ·simp [sV, Value.cells, h, Nat.mod_one]
 ·simp [sV, Value.cells, h, Nat.mod_one]
theorem eAt_nils (n i : Nat) : eAt (List.replicate n (none, 0, [])) i = (none, 0, []) := by
 unfold eAt
 rw [List.getD_eq_getElem?_getD, List.getElem?_replicate]
 split <;> rfl
theorem qsOf_ext {es : List Qe} {qs : Qs} (hl : es.length = qs.length) (h : ∀ j, j < es.length → (eAt es j).2.2 = qAt qs j) : qsOf es = qs := by
 apply List.ext_getElem?
 intro j
 rcases Nat.lt_or_ge j es.length with h1 | h1
 ·have h2 := h j h1
  rw [← qAt_of] at h2
  unfold qAt at h2
  rw [List.getD_eq_getElem?_getD, List.getD_eq_getElem?_getD, List.getElem?_eq_getElem (by rw [qsOf_len]; exact h1), List.getElem?_eq_getElem (by omega)] at h2
  rw [List.getElem?_eq_getElem (by rw [qsOf_len]; exact h1), List.getElem?_eq_getElem (by omega)]
  simpa using h2
 ·rw [List.getElem?_eq_none (by rw [qsOf_len]; exact h1), List.getElem?_eq_none (by omega)]
set_option maxRecDepth 100000 in
set_option maxHeartbeats 4000000 in
theorem state_any {w : World} {b : Nat} {F : Nat → Prop} {os : List Int} {qs : Qs} (h : Lk w b F os qs) (ht : total qs ≤ 8796093022208) :
    Calls Tryz.prog 85 #[.pointer (some ⟨b, 0, none⟩)] w fun e w' => ∃ a1 c1 a2 c2 es, e = .returned (.tuple #[.slice a1 os.length c1, .slice a2 os.length c2]) ∧ Told w os qs w' a1 c1 a2 c2 es := by
  obtain ⟨hG, m, ao, co, aq, cq, es0, hL, hq, hF, -⟩ := h
  have hL := hL.lb
  have c1 := hL.c1
  have hel : es0.length = os.length := by rw [← hG.n, ← hq, qsOf_len]
  have h8 := hG.le
  have hql : qs.length = os.length := hG.n
  obtain ⟨n, hN⟩ : ∃ n, Hid (os.length = n) := ⟨_, rfl⟩
  rw [hN.out] at hel h8 hql
  rw [hel] at c1
  have HC : Hid (∀ i, i < n → ∀ wr, Below w.heap.size w wr → ∃ g, aq = some ⟨g, 0, none⟩ ∧ wr.cell? ⟨g, i, none⟩ = some (.slice (eAt es0 i).1 (qAt qs i).length (eAt es0 i).2.1) ∧ Rd wr (eAt es0 i).1 (iC (qAt qs i)) ∧ (qAt qs i).length ≤ 8796093022208) := hd (fun i hi wr hb => by
    have hL2 := hL.below hb
    have e : qAt qs i = (eAt es0 i).2.2 := by rw [← hq, qAt_of]
    obtain ⟨g, h1, h2⟩ := hL2.queue i (by omega)
    rw [e]
    exact ⟨g, h1, h2, (hL2.qs i (by omega)).rd, by rw [← e]; exact Nat.le_trans (total_le i) ht⟩)
  have HO : Hid (∀ wr, Below w.heap.size w wr → wr.cell? ⟨b, 0, none⟩ = some (.slice ao n co) ∧ Rd wr ao (iC os)) := hd (fun wr hb => by
    have hL2 := hL.below hb
    have := hL2.c0
    rw [hN.out] at this
    exact ⟨this, hL2.ro.rd⟩)
  have HEL := hd hel
  have HQL := hd hql
  rw [hN.out]
  have hmk := make_eq 102 24 _ 1 24 Tryz.underlying102 infoL n (by omega) (by unfold maxLen; omega) w
  have hbl : b < w.heap.size := hL.blt
  clear hL hel hql hG hq hF ht
  obtain ⟨w1, hw1⟩ : ∃ W, Hid (w.alloc (.cells (madeCells (Value.slice none 0 0).cells (n * 1)) 24) = W) := ⟨_, rfl⟩
  rw [hw1.out] at hmk
  go_enter Tryz.func85, Tryz.ntmps85
  go_upto_region 2 with fail
  have HB1 : Hid (Below w.heap.size w w1) := hd (by rw [← hw1.out]; exact below_al w _)
  have HS : Hid (QL w1 w.heap.size 0 (some ⟨w.heap.size, 0, none⟩) n (List.replicate n (none, 0, []))) := hd (by
    have hh := heap_alloc_new w (.cells (madeCells (Value.slice none 0 0).cells (n * 1)) 24)
    rw [hw1.out] at hh
    have hsz : (madeCells (Value.slice none 0 0).cells (n * 1)).size = n * 1 := by
      rw [← Array.length_toList, made_nils, sC_len]; simp
    have hr := row_new (size := 1) (n := n) hh hsz (by unfold maxLen; omega)
    rw [made_nils] at hr
    refine ⟨by rw [List.length_replicate]; exact hr, (fun i _ _ => by rw [eAt_nils]; exact Qw.none' w1), (fun k hk => by cases hk; exact Nat.le_refl _), (fun i _ _ k hk => by rw [eAt_nils] at hk; cases hk), (fun i j _ _ _ _ _ k hk => by rw [eAt_nils] at hk; cases hk)⟩)
  have c1' : w1.cell? ⟨b, 1, none⟩ = some (.slice aq n cq) := (HB1.out.cell (p := ⟨b, 1, none⟩) hbl).trans c1
  obtain ⟨G, hG⟩ : ∃ G, Hid (w.heap.size = G) := ⟨_, rfl⟩
  have HS2 : Hid (QL w1 w.heap.size 0 (some ⟨G, 0, none⟩) n (List.replicate n (none, 0, []))) := hd (by have := HS.out; rw [hG.out] at this ⊢; exact this)
  rw [hG.out]
  clear HS hmk hw1 c1
  go_wp2_with fail
  go_loopg [5, 6, 18, 19, 20, 21, 22, 23, 24, 25, 26, 27, 28] n (fun k v5 v6 v18 v19 v20 v21 v22 v23 v24 v25 v26 v27 v28 wr => ∃ i : Nat, i + k = n ∧ v18 = .int .i64 (i : Int) ∧ Hid (∃ es, QL wr w.heap.size 0 (some ⟨G, 0, none⟩) n es ∧ es.length = n ∧ (∀ j, j < i → (eAt es j).2.2 = qAt qs j) ∧ Below w.heap.size w wr))
  case atStart => exact ⟨0, by omega, by go_num, hd ⟨_, HS2.out, by simp, fun j hj => absurd hj (Nat.not_lt_zero _), HB1.out⟩⟩
  case round =>
    obtain ⟨i, hik, rfl, HX⟩ := hrel
    clear HS2 HB1 c1'
    obtain ⟨es, h1, h2, h3, h4⟩ := HX.out
    by_cases h0 : gk = 0
    · subst h0
      have hi : i = n := by omega
      subst hi
      obtain ⟨d0, hro⟩ := HO.out wr h4
      have hcp := copied_any (c := co) hro (n := i) (by rw [iC_len, hN.out]; omega) (iC_one _) (by omega)
      have HE : Hid (∀ w' a1 c1, Row w' 3 1 a1 i c1 (iC os) → Below wr.heap.size wr w' → (∀ k, blk a1 = some k → wr.heap.size ≤ k) → Told w os qs w' a1 c1 (some ⟨G, 0, none⟩) i es) := hd (fun w' a1 c1 r1 r2 r3 => by
        refine ⟨by rw [hN.out]; exact r1, h1.below r2, qsOf_ext (by rw [h2, HQL.out]) (fun j hj => h3 j (by omega)), fun k hk => ?_, h4.trans (r2.mono h4.size)⟩
        have := r3 k hk
        refine ⟨Nat.le_trans h4.size this, fun hq => ?_⟩
        have := h1.lt k hq
        omega)
      clear HX h1 h2 h3 h4 hik HC HO hro HEL HQL
      go_wp2_with (first | (go_at_call 115; refine hcp.mono ?_; rintro e3 w3 ⟨a1, c1, rfl, r1, r2, r3⟩))
      go_ret2
      exact ⟨a1, c1, _, _, es, rfl, HE.out _ _ _ r1 r2 r3⟩
    · have hlt : i < n := by omega
      obtain ⟨g, rfl, d1, hrd, hqn⟩ := HC.out i hlt wr h4
      obtain ⟨ln, hLN⟩ : ∃ ln, Hid ((qAt qs i).length = ln) := ⟨_, rfl⟩
      rw [hLN.out] at d1 hqn
      have hcp := copied_any (c := (eAt es0 i).2.1) hrd (n := ln) (by rw [iC_len, hLN.out]; omega) (iC_one _) hqn
      have HE : Hid (∀ w' a1 c1, Row w' 3 1 a1 ln c1 (iC (qAt qs i)) → Below wr.heap.size wr w' → (∀ k, blk a1 = some k → wr.heap.size ≤ k) → (∃ u, w'.cell? ⟨G, i, none⟩ = some u) ∧ w'.frozen? ⟨G, i, none⟩ = false ∧ ∃ es', QL (w'.setCell ⟨G, i, none⟩ (.slice a1 ln c1)) w.heap.size 0 (some ⟨G, 0, none⟩) n es' ∧ es'.length = n ∧ (∀ j, j < i + 1 → (eAt es' j).2.2 = qAt qs j) ∧ Below w.heap.size w (w'.setCell ⟨G, i, none⟩ (.slice a1 ln c1))) := hd (fun w' a1 c1 r1 r2 r3 => by
        have hql := h1.below r2
        obtain ⟨g', eg, y1, y2⟩ := hql.cell i (by omega)
        cases eg
        have hqw : Qw w' (a1, c1, qAt qs i) := by
          unfold Qw
          rw [hLN.out]
          exact r1.ro
        have hp := hql.put (i := i) (by omega) hqw (fun k hk => ⟨Nat.le_trans h4.size (r3 k hk), fun hq => by have := h1.lt k hq; have := r3 k hk; omega⟩)
        unfold sV at hp
        simp only [hLN.out] at hp
        refine ⟨⟨_, y1⟩, y2, _, hp, by rw [List.length_set]; exact h2, fun j hj => ?_, ?_⟩
        · rw [eAt_set (by omega)]
          split
          · rename_i e; rw [← e]
          · exact h3 j (by omega)
        · have b1 := h4.trans (r2.mono h4.size)
          have b2 : Mod (fun k => k = G) w' (w'.setCell ⟨G, i, none⟩ (.slice a1 ln c1)) := (Mod.refl (fun k => k = G) w').setCell (.inl rfl) _
          exact b1.trans (b2.below b1.size (fun k _ e => by rw [e, hG.out]; exact Nat.le_refl _)))
      clear HX h1 h2 h3 h4 h0 HC HO hrd HEL HQL hqn
      go_wp2_with (first | (go_at_call 115; refine hcp.mono ?_; rintro e3 w3 ⟨a1, c1, rfl, r1, r2, r3⟩
                            obtain ⟨⟨u, y1⟩, y2, hes⟩ := HE.out w3 a1 c1 r1 r2 r3
                            have HES := hd hes
                            clear hes r1 r2 r3))
      go_roundg (gk - 1)
      case rel => exact ⟨i + 1, by omega, by go_num, HES⟩
      case measure => omega
end Go.Proofs.YthhcecllejddeaaGreatDoor.Locks
