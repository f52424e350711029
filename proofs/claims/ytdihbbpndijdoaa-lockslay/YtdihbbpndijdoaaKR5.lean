/- The document's side: End. -/
import Derived.Test.YtdihbbpndijdoaaKR3
namespace Go.Proofs.Ytdihbbpndijdoaa
open Go.RowKit Go.Maps

/-- Within the document's End: the locks as they stand, what was held at the begin, what is told so far. -/
structure EndR (w wr : World) (b : Nat) (ao : Option Addr) (co : Nat) (aq : Option Addr) (cq : Nat) (es0 : List Qe) (os : List Int) (qs : Qs) (hl : List Int) (ah : Option Addr) (nh ch : Nat) (out : List (Int × Int)) (a : Option Addr) (n c : Nat) : Prop where
  ex : ∃ es, LB wr 54 [] b ao co aq cq os es ∧ qsOf es = qs ∧ (∀ k, lfp b ao aq es k → lfp b ao aq es0 k ∨ w.heap.size ≤ k) ∧ (∀ k, blk ah = some k → ¬ lfp b ao aq es k) ∧ (∀ k, blk a = some k → ¬ lfp b ao aq es k)
  lens : qs.length = os.length ∧ os.length ≤ 8
  mod : Mod (lfp b ao aq es0) w wr
  held : Row wr 3 1 ah nh ch (iC hl)
  hlen : hl.length = nh
  row : Row wr 73 2 a n c (wC out)
  olen : out.length = n
  ap : ∀ k, blk ah = some k → blk a ≠ some k
  anew : ∀ k, blk a = some k → w.heap.size ≤ k
section
variable {w wr w' : World} {b : Nat} {ao : Option Addr} {co : Nat} {aq : Option Addr} {cq : Nat} {es0 : List Qe} {os : List Int} {qs : Qs} {hl : List Int} {ah : Option Addr} {nh ch : Nat} {out : List (Int × Int)} {a : Option Addr} {n c : Nat}
theorem EndR.hand (h : EndR w wr b ao co aq cq es0 os qs hl ah nh ch out a n c) {i : Nat} (hi : i < os.length) (ht : total qs ≤ 8796093022208) :
    Calls Try.prog 42 #[.pointer (some ⟨b, 0, none⟩), .int .i64 (i : Int)] wr fun e w' => e = .returned (.tuple #[]) ∧ EndR w w' b ao co aq cq es0 (handO os qs i) (handQ qs i) hl ah nh ch out a n c := by
  obtain ⟨es, h1, h2, h3, h4, h5⟩ := h.ex
  refine (rhand_any h1 h2 h.lens.1 hi ht).mono ?_
  rintro e w' ⟨rfl, es', t1, t2, t3, t4⟩
  have hah := h.held.lt
  have ha := h.row.lt
  refine ⟨rfl, ⟨es', t1, t2, fun k hk => ?_, fun k hk hm => ?_, fun k hk hm => ?_⟩, (by rw [handO_len, handQ_len]; exact h.lens), h.mod.trans t3 (fun k hk => h3 k hk), h.held.mod t3 h4, h.hlen, h.row.mod t3 h5, h.olen, h.ap, h.anew⟩
  · rcases t4 k hk with h6 | h6
    · exact h3 k h6
    · exact .inr (Nat.le_trans h.mod.size h6)
  · rcases t4 k hm with h6 | h6
    · exact h4 k hk h6
    · have := hah k hk; omega
  · rcases t4 k hm with h6 | h6
    · exact h5 k hk h6
    · have := ha k hk; omega
theorem EndR.push (h : EndR w wr b ao co aq cq es0 os qs hl ah nh ch out a n c) (hn : n < 1000) (x y : Int) :
    ∃ a' c' w', (∀ ty, (Builtin.append_ #[71, 71] ty #[.slice a n c, .slice (some ⟨wr.heap.size, 0, none⟩) 1 1]).run Try.prog (wr.alloc (.cells #[.int .i64 x, .int .i64 y] 73)) = .ok (.slice a' (n + 1) c') w') ∧ EndR w w' b ao co aq cq es0 os qs hl ah nh ch (out ++ [(x, y)]) a' (n + 1) c' := by
  obtain ⟨es, h1, h2, h3, h4, h5⟩ := h.ex
  obtain ⟨a', c', w', m1, m2, m3, m4⟩ := push_any (T := 71) Try.underlying71 infoRG rfl h.row (by unfold maxLen; omega) (by omega) [.int .i64 x, .int .i64 y] rfl (by simp [Value.oneCell'])
  have hnew : ∀ k, lfp b ao aq es k ∨ blk ah = some k → blk a' ≠ some k := fun k hk e => by
    rcases m4 k e with h6 | h6
    · rcases hk with hk | hk
      · exact h5 k h6 hk
      · exact h.ap k hk h6
    · rcases hk with hk | hk
      · have := h1.lt k hk; omega
      · have := h.held.lt k hk; omega
  refine ⟨a', c', w', m1, ⟨es, h1.mod m3 (fun k hk e => h5 k e hk), h2, h3, h4, fun k hk hm => hnew k (.inl hm) hk⟩, h.lens, h.mod.trans m3 (fun k hk => .inr (h.anew k hk)), h.held.mod m3 h.ap, h.hlen, by rw [wC_app]; exact m2, by simp [h.olen], fun k hk => hnew k (.inr hk), fun k hk => ?_⟩
  rcases m4 k hk with h6 | h6
  · exact h.anew k h6
  · exact Nat.le_trans h.mod.size h6
end


theorem EndR.drew {w wr : World} {b : Nat} {ao : Option Addr} {co : Nat} {aq : Option Addr} {cq : Nat} {es0 : List Qe} {os : List Int} {qs : Qs} {hl : List Int} {ah : Option Addr} {nh ch : Nat} {out : List (Int × Int)} {a : Option Addr} {n c : Nat} (h : EndR w wr b ao co aq cq es0 os qs hl ah nh ch out a n c) : EndR w wr.drew b ao co aq cq es0 os qs hl ah nh ch out a n c := by
  obtain ⟨es, h1, h2, h3, h4, h5⟩ := h.ex
  have hb : Below wr.heap.size wr wr.drew := (Below.refl _ wr).drew
  exact ⟨⟨es, h1.below hb, h2, h3, h4, h5⟩, h.lens, h.mod.after hb, h.held.below hb, h.hlen, h.row.below hb, h.olen, h.ap, h.anew⟩

/-- What the document's End leaves. -/
def REndOut (w : World) (b : Nat) (F : Nat → Prop) (os' : List Int) (qs' : Qs) (out : List (Int × Int)) (e : Ending) (w' : World) : Prop :=
  RkOut w b F os' qs' w' ∧ ∃ a c, e = .returned (.slice a out.length c) ∧ Row w' 73 2 a out.length c (wC out) ∧ ∀ k, blk a = some k → w.heap.size ≤ k

theorem awayQ_len (qs : Qs) (p : Int) : (awayQ qs p).length = qs.length := by
  unfold awayQ
  split
  · simp [leaveQ]
  · rfl
theorem filter_take {q : List Int} {p : Int} {k : Nat} (hk : k < q.length) : (q.take (k + 1)).filter (fun x => decide (x ≠ p)) = (q.take k).filter (fun x => decide (x ≠ p)) ++ (if q.getD k 0 ≠ p then [q.getD k 0] else []) := by
  rw [List.take_succ_eq_append_getElem hk, List.filter_append, List.getD_eq_getElem?_getD, List.getElem?_eq_getElem hk]
  congr 1
  by_cases h : q[k] = p
  · simp [h]
  · simp [h]

set_option maxRecDepth 100000 in
set_option maxHeartbeats 4000000 in
theorem rend_any {w : World} {b : Nat} {F : Nat → Prop} {os : List Int} {qs : Qs} (h : Rk w b F os qs) (ht : total qs ≤ 6000000000000) (p : Int) :
    Calls Try.prog 34 #[.pointer (some ⟨b, 0, none⟩), .int .i64 p] w fun e w' => REndOut w b F (endA os qs p).1 (endA os qs p).2.1 (endA os qs p).2.2 e w' := by
  have hwt := rwaits_any h (by omega) p
  obtain ⟨hl, h8, ao, co, aq, cq, es, hL, hq, hF, -⟩ := h
  have HL := hd hL
  have HQ := hd hq
  have HF := hd hF
  have HLS : Hid (qs.length = os.length ∧ os.length ≤ 8) := hd ⟨hl, h8⟩
  have HTL : Hid (total (awayQ qs p) ≤ 8796093022208) := hd (Nat.le_trans (total_away qs p) (by omega))
  obtain ⟨R, hR⟩ : ∃ R, Hid (endA os qs p = R) := ⟨_, rfl⟩
  rw [hR.out]
  obtain ⟨v1, hv1⟩ : ∃ v1, Hid ((wtI qs p).getD 0 = v1) := ⟨_, rfl⟩
  obtain ⟨v2, hv2⟩ : ∃ v2, Hid ((wtI qs p).isSome = v2) := ⟨_, rfl⟩
  rw [hv1.out, hv2.out] at hwt
  have HT0 := hd ht
  clear hL hl h8 hq hF ht
  go_enter Try.func34, Try.ntmps34
  go_upto_if 18 with (first | (go_at_call 36; refine hwt.mono ?_; rintro e3 w3 ⟨rfl, rfl⟩))
  go_cut [7, 8, 19, 20, 21, 22, 23, 24, 25, 26, 27, 28, 29, 30, 31, 32, 33, 34, 35, 36, 37, 38, 39, 40, 41, 42, 43, 44, 45, 46, 47, 48, 49, 50, 51, 52, 53, 54, 55, 56, 57, 58, 59, 60, 61, 62, 63] (fun v7 v8 v19 v20 v21 v22 v23 v24 v25 v26 v27 v28 v29 v30 v31 v32 v33 v34 v35 v36 v37 v38 v39 v40 v41 v42 v43 v44 v45 v46 v47 v48 v49 v50 v51 v52 v53 v54 v55 v56 v57 v58 v59 v60 v61 v62 v63 wy => Hid (HT w3 b ao co aq cq es os (awayQ qs p) wy))
  case first =>
    cases hw : wt qs p with
    | none =>
      obtain rfl : v2 = false := by rw [← hv2.out]; unfold wtI; rw [hw]; rfl
      have HE : Hid (HT w3 b ao co aq cq es os (awayQ qs p) w3) := hd (by
        have e : awayQ qs p = qs := by unfold awayQ; rw [hw]
        rw [e]
        exact ⟨es, HL.out, HQ.out, Mod.refl _ _, fun k hk => .inl hk⟩)
      clear hw HL HQ HF HLS HTL hR hv1 hv2 HT0 hwt
      go_wp2_with fail
      go_meet
      case rel => exact HE
    | some i =>
      obtain rfl : v2 = true := by rw [← hv2.out]; unfold wtI; rw [hw]; rfl
      obtain rfl : v1 = (i : Int) := by rw [← hv1.out]; unfold wtI; rw [hw]; rfl
      have hil : i < qs.length := by
        unfold wt at hw
        obtain ⟨hlt, -, -⟩ := List.findIdx?_eq_some_iff_getElem.1 hw
        exact hlt
      have hie : i < es.length := by rw [← qsOf_len, HQ.out]; exact hil
      have hel : es.length = os.length := by rw [← HLS.out.1, ← HQ.out, qsOf_len]
      have hqa : qAt qs i = (eAt es i).2.2 := by rw [← HQ.out, qAt_of]
      obtain ⟨ln, hLN⟩ : ∃ ln, Hid ((qAt qs i).length = ln) := ⟨_, rfl⟩
      have hln : ln ≤ 6000000000000 := by rw [← hLN.out]; exact Nat.le_trans (total_le i) HT0.out
      obtain ⟨n, hNN⟩ : ∃ n, Hid (es.length = n) := ⟨_, rfl⟩
      have hin : i < n := by rw [← hNN.out]; exact hie
      have hn8 : n ≤ 8 := by rw [← hNN.out, hel]; exact HLS.out.2
      have HC : Hid (∀ wr, Below w3.heap.size w3 wr → wr.cell? ⟨b, 1, none⟩ = some (.slice aq n cq) ∧ ∃ g, aq = some ⟨g, 0, none⟩ ∧ wr.cell? ⟨g, i, none⟩ = some (.slice (eAt es i).1 ln (eAt es i).2.1) ∧ wr.frozen? ⟨g, i, none⟩ = false) := hd (fun wr hb => by
        have h2 := HL.out.below hb
        have hc1 := h2.c1
        rw [hNN.out] at hc1
        obtain ⟨g, rfl, h3⟩ := h2.queue i hie
        rw [← hqa, hLN.out] at h3
        exact ⟨hc1, g, rfl, h3, h2.freeQ i⟩)
      have HW : Hid (∀ wr, Below w3.heap.size w3 wr → ∀ k, k < ln → ∃ g o, (eAt es i).1 = some ⟨g, o, none⟩ ∧ wr.cell? ⟨g, o + k, none⟩ = some (.int .i64 ((qAt qs i).getD k 0))) := hd (fun wr hb k hk => by
        rw [hqa]
        exact (HL.out.below hb).who i k hie (by rw [← hqa, hLN.out]; exact hk))
      have HE : Hid (∀ wr a nn c g, aq = some ⟨g, 0, none⟩ → OwnI w3 ((qAt qs i).filter (fun x => decide (x ≠ p))) wr a nn c → HT w3 b ao co aq cq es os (awayQ qs p) (wr.setCell ⟨g, i, none⟩ (.slice a nn c))) := hd (fun wr a nn c g hg ho => by
        subst hg
        obtain ⟨o1, o2, o3, o4⟩ := ho
        have e : awayQ qs p = leaveQ qs i p := by unfold awayQ; rw [hw]
        rw [e]
        have hqw : Qw wr (a, c, (qAt qs i).filter (fun x => decide (x ≠ p))) := by unfold Qw; rw [o1]; exact o2.ro
        obtain ⟨s1, s2, s3⟩ := HL.out.newQ hie o3 hqw o4
        unfold sV at s1 s2
        rw [o1] at s1 s2
        exact ⟨_, s1, by rw [qsOf_set, HQ.out]; rfl, s2, s3⟩)
      obtain ⟨w1, hw1⟩ : ∃ W, Hid (w3.alloc (.cells #[] 3) = W) := ⟨_, rfl⟩
      have HS := hd (OwnI.empty w3)
      rw [hw1.out] at HS
      clear hw HL HQ HF HLS HTL hR hv1 hv2 HT0 hwt hil hie hel hqa hNN
      go_upto_region 4 with fail
      rw [hw1.out]
      obtain ⟨G, hG⟩ : ∃ G, Hid (w3.heap.size = G) := ⟨_, rfl⟩
      rw [hG.out]
      have HS2 : Hid (OwnI w3 [] w1 (some ⟨G, 0, none⟩) 0 0) := hd (by have := HS.out; rw [hG.out] at this; exact this)
      clear HS hw1
      go_wp2_with fail
      go_loopg [7, 8, 20, 21, 22, 23, 24, 25, 26, 27, 28, 29, 30, 31, 32, 33, 34, 35, 36, 37, 38, 39, 40, 41, 42, 43, 44, 45, 46, 47, 48, 49, 50, 51, 52, 53, 54, 55, 56] ln (fun k v7 v8 v20 v21 v22 v23 v24 v25 v26 v27 v28 v29 v30 v31 v32 v33 v34 v35 v36 v37 v38 v39 v40 v41 v42 v43 v44 v45 v46 v47 v48 v49 v50 v51 v52 v53 v54 v55 v56 wr => ∃ (t nn c : Nat) (a : Option Addr), t + k = ln ∧ v8 = .int .i64 (t : Int) ∧ v7 = .slice a nn c ∧ nn ≤ t ∧ Hid (OwnI w3 (((qAt qs i).take t).filter (fun x => decide (x ≠ p))) wr a nn c))
      case atStart => exact ⟨0, 0, 0, _, by omega, by go_num, rfl, Nat.le_refl _, HS2⟩
      case round =>
        obtain ⟨t, nn, c, a, htk, rfl, rfl, hnn, HO⟩ := hrel
        clear HS2
        obtain ⟨d1, g, rfl, d2, d3⟩ := HC.out wr HO.out.2.2.1
        by_cases h0 : gk = 0
        · subst h0
          have hi : t = ln := by omega
          subst hi
          have HE2 : Hid (HT w3 b ao co (some ⟨g, 0, none⟩) cq es os (awayQ qs p) (wr.setCell ⟨g, i, none⟩ (.slice a nn c))) := hd (HE.out wr a nn c g rfl (by
            have := HO.out
            rwa [List.take_of_length_le (by rw [hLN.out]; omega)] at this))
          clear HE HO HC HW htk
          go_wp2_with fail
          go_meet
          case rel => exact HE2
        · have hlt : t < ln := by omega
          obtain ⟨gx, ox, hax, cx⟩ := HW.out wr HO.out.2.2.1 t hlt
          rw [hax] at d2
          have HFT := hd (filter_take (q := qAt qs i) (p := p) (k := t) (by rw [hLN.out]; exact hlt))
          obtain ⟨x, hx⟩ : ∃ x, Hid ((qAt qs i).getD t 0 = x) := ⟨_, rfl⟩
          rw [hx.out] at cx HFT
          by_cases he : x = p
          · have HO2 : Hid (OwnI w3 (((qAt qs i).take (t + 1)).filter (fun x => decide (x ≠ p))) wr a nn c) := hd (by rw [HFT.out, if_neg (by simpa using he), List.append_nil]; exact HO.out)
            subst he
            clear HE HO HC HW HFT hax h0
            go_wp2_with fail
            go_roundg (gk - 1)
            case rel => exact ⟨t + 1, nn, c, a, by omega, by go_num, rfl, by omega, HO2⟩
            case measure => omega
          · have he' : (x != p) = true := by simpa using he
            obtain ⟨a', c', w', hap, ho⟩ := HO.out.push (by omega) x
            have HO2 : Hid (OwnI w3 (((qAt qs i).take (t + 1)).filter (fun x => decide (x ≠ p))) w' a' (nn + 1) c') := hd (by rw [HFT.out, if_pos he]; exact ho)
            replace hap := hd hap
            clear HE HO HC HW HFT ho he hax h0
            go_wp2_with (first | (at_builtin; refine wpList_append_run rfl _ _ _ rfl _ _ _ _ rfl rfl hap.out ?_; clear hap))
            go_roundg (gk - 1)
            case rel => exact ⟨t + 1, nn + 1, c', a', by omega, by go_num, rfl, by omega, HO2⟩
            case measure => omega
  case rest =>
    clear hwt hv1 hv2 HT0
    obtain ⟨es1, t1, t2, t3, t4⟩ := hcut.out
    have hLA : (awayQ qs p).length = os.length ∧ os.length ≤ 8 := ⟨by rw [awayQ_len]; exact HLS.out.1, HLS.out.2⟩
    obtain ⟨w1, hw1⟩ : ∃ W, Hid (wc.alloc (.cells #[] 73) = W) := ⟨_, rfl⟩
    have hB1 : Below wc.heap.size wc w1 := by rw [← hw1.out]; exact below_al wc _
    have hgr : Row w1 73 2 (some ⟨wc.heap.size, 0, none⟩) 0 0 (wC []) := by
      have hh := heap_alloc_new wc (.cells #[] 73)
      rw [hw1.out] at hh
      exact row_new (size := 2) (n := 0) hh rfl (by unfold maxLen; omega)
    have hsz1 : wc.heap.size < w1.heap.size := by rw [← hw1.out]; simp
    obtain ⟨G, hG⟩ : ∃ G, Hid (wc.heap.size = G) := ⟨_, rfl⟩
    rw [hG.out] at hgr hsz1
    have hho := rholds_any (t1.below hB1) hLA.2 p
    have HI : Hid (∀ ah nh ch w', OwnI w1 (hold os p) w' ah nh ch → EndR w3 w' b ao co aq cq es os (awayQ qs p) (hold os p) ah nh ch [] (some ⟨G, 0, none⟩) 0 0) := hd (fun ah nh ch w' ho => by
      obtain ⟨h1, h2, h3, h4⟩ := ho
      have t1' := (t1.below hB1).below h3
      refine ⟨⟨es1, t1', t2, t4, fun k hk hm => ?_, fun k hk hm => ?_⟩, hLA, (t3.after hB1).after h3, h2, h1, hgr.below h3, rfl, fun k hk e => ?_, fun k hk => ?_⟩
      · have := (t1.below hB1).lt k hm
        have := h4 k hk
        omega
      · cases hk
        have := t1.lt G hm
        rw [hG.out] at this
        omega
      · cases e
        have := h4 G hk
        omega
      · cases hk
        rw [← hG.out]
        exact t3.size)
    have HLE : Hid ((hold os p).length ≤ 8) := hd (Nat.le_trans (holdTo_len _ _ _) HLS.out.2)
    have HNO : Hid (os.length ≤ 8) := hd HLS.out.2
    clear hcut t1 t2 t3 t4 HL HQ hLA hB1 hgr
    go_upto_region 11 with fail
    rw [hw1.out, hG.out]
    clear hw1
    go_wp2_with (first | (go_at_call 35; refine hho.mono ?_; rintro e5 w5 ⟨ah, nh, ch, rfl, ho5⟩))
    have HS := hd (HI.out ah nh ch w5 ho5)
    have hnh : nh ≤ 8 := by rw [← ho5.1]; exact HLE.out
    have HNH := hd ho5.1
    clear hho HI ho5
    go_loopg [9, 11, 68, 69, 70, 71, 72, 73, 74, 75, 76, 77, 78, 79, 80, 81, 82, 83, 84, 85, 86, 87, 88, 89, 90, 91, 92, 93, 94, 95, 96, 97] nh (fun k v9 v11 v68 v69 v70 v71 v72 v73 v74 v75 v76 v77 v78 v79 v80 v81 v82 v83 v84 v85 v86 v87 v88 v89 v90 v91 v92 v93 v94 v95 v96 v97 wr => ∃ (i c : Nat) (a : Option Addr), i + k = nh ∧ v11 = .int .i64 (i : Int) ∧ v9 = .slice a i c ∧ Hid (∃ osk qsk outk, EndR w3 wr b ao co aq cq es osk qsk (hold os p) ah nh ch outk a i c ∧ osk.length = os.length ∧ total qsk ≤ 8796093022208 ∧ endF ((hold os p).drop i) osk qsk outk = R))
    case atStart => exact ⟨0, 0, _, by omega, by go_num, rfl, hd ⟨os, awayQ qs p, [], HS.out, rfl, HTL.out, by rw [List.drop_zero]; exact hR.out⟩⟩
    case round =>
      obtain ⟨i, c, a, hik, rfl, rfl, HX⟩ := hrel
      clear HS
      by_cases h0 : gk = 0
      · subst h0
        have hi : i = nh := by omega
        subst hi
        have HE : Hid (REndOut w3 b F R.1 R.2.1 R.2.2 (.returned (.slice a i c)) wr) := hd (by
          obtain ⟨osk, qsk, outk, h1, h2, h3, h4⟩ := HX.out
          rw [List.drop_of_length_le (by rw [HNH.out]; omega)] at h4
          rw [← h4]
          obtain ⟨es2, s1, s2, s3, s4, s5⟩ := h1.ex
          refine ⟨RkOut.mk' HF.out h1.mod h1.lens.1 h1.lens.2 s1 s2 s3, a, c, by rw [show (endF [] osk qsk outk).2.2 = outk from rfl, h1.olen], ?_, h1.anew⟩
          show Row wr 73 2 a outk.length c (wC outk)
          rw [h1.olen]
          exact h1.row)
        clear hik HX hR HTL HLE HNH HF
        go_wp2_with fail
        go_ret
        exact HE.out
      · have hlt : i < nh := by omega
        obtain ⟨osk, qsk, outk, h1, h2, h3, h4⟩ := HX.out
        obtain ⟨j, hj, hjl⟩ := hold_at (os := os) (p := p) (i := i) (by rw [HNH.out]; exact hlt)
        have HHC : Hid (∀ (W : World) osy qsy outy (ay : Option Addr) ny cy, EndR w3 W b ao co aq cq es osy qsy (hold os p) ah nh ch outy ay ny cy → ∃ gh, ah = some ⟨gh, 0, none⟩ ∧ W.cell? ⟨gh, i, none⟩ = some (.int .i64 (j : Int))) := hd (fun W osy qsy outy ay ny cy he => by
          obtain ⟨gh, e, chd⟩ := he.held.cell i (by omega)
          rw [iC_at _ i (by rw [HNH.out]; exact hlt) 0, hj] at chd
          exact ⟨gh, e, chd⟩)
        obtain ⟨gh, rfl, chd⟩ := HHC.out _ _ _ _ _ _ _ h1
        have hha := h1.hand (i := j) (by rw [h2]; exact hjl) h3
        rw [endF_drop (by rw [HNH.out]; exact hlt) hj] at h4
        have hj8 : j < 8 := by have := HNO.out; omega
        have h2' : (handO osk qsk j).length = os.length := by rw [handO_len]; exact h2
        have h3' : total (handQ qsk j) ≤ 8796093022208 := Nat.le_trans (total_sub (List.tail_sublist _)) h3
        obtain ⟨ov, hov⟩ : ∃ ov, Hid (oAt (handO osk qsk j) j = ov) := ⟨_, rfl⟩
        rw [hov.out] at h4
        obtain ⟨os2, hos2⟩ : ∃ os2, Hid (handO osk qsk j = os2) := ⟨_, rfl⟩
        obtain ⟨qs2, hqs2⟩ : ∃ qs2, Hid (handQ qsk j = qs2) := ⟨_, rfl⟩
        rw [hos2.out] at h4 h2' hov hha
        rw [hqs2.out] at h4 h3' hha
        obtain ⟨no, hno⟩ : ∃ no, Hid (os.length = no) := ⟨_, rfl⟩
        have hjn : j < no := by rw [← hno.out]; exact hjl
        have HCE : Hid (∀ (W : World) outy (ay : Option Addr) ny cy, EndR w3 W b ao co aq cq es os2 qs2 (hold os p) (some ⟨gh, 0, none⟩) nh ch outy ay ny cy → W.cell? ⟨gh, i, none⟩ = some (.int .i64 (j : Int)) ∧ W.cell? ⟨b, 0, none⟩ = some (.slice ao no co) ∧ ∃ go, ao = some ⟨go, 0, none⟩ ∧ W.cell? ⟨go, j, none⟩ = some (.int .i64 ov)) := hd (fun W outy ay ny cy he => by
          obtain ⟨gh', e, chd⟩ := HHC.out _ _ _ _ _ _ _ he
          cases e
          obtain ⟨es6, s1, -⟩ := he.ex
          have d0 := s1.c0
          rw [h2', hno.out] at d0
          obtain ⟨go, ego, dj⟩ := s1.owner j (by rw [h2', hno.out]; exact hjn)
          rw [hov.out] at dj
          exact ⟨chd, d0, go, ego, dj⟩)
        have HH4 := hd h4
        have HH2 := hd h2'
        have HH3 := hd h3'
        clear h1 h2 h3 h4 h2' h3' hj HX h0 hos2 hqs2 hjl HHC
        go_upto_region 16 with (first
          | (go_at_call 42; refine hha.mono ?_; rintro e6 w6 ⟨rfl, hI6⟩
             have HI6 := hd hI6
             clear hI6))
        obtain ⟨x1, x2, go, rfl, x3⟩ := HCE.out _ _ _ _ _ HI6.out
        obtain ⟨a', c', w7, hap, hI7⟩ := (show EndR w3 w6.drew b (some ⟨go, 0, none⟩) co aq cq es os2 qs2 (hold os p) (some ⟨gh, 0, none⟩) nh ch outk a i c from HI6.out.drew).push (by omega) (j : Int) ov
        obtain ⟨y1, y2, go', ego, y3⟩ := HCE.out _ _ _ _ _ hI7
        cases ego
        have hap : Hid (∀ ty, (Builtin.append_ #[71, 71] ty #[.slice a i c, .slice (some ⟨w6.heap.size, 0, none⟩) 1 1]).run Try.prog (w6.alloc (.cells #[.int .i64 (j : Int), .int .i64 ov] 73)).drew = .ok (.slice a' (i + 1) c') w7) := hd hap
        have HI7 := hd hI7
        clear hI7 HI6 HCE hha
        go_region_held3 (fun w' => w'.cell? ⟨gh, i, none⟩ = some (.int .i64 (j : Int)) ∧ w'.cell? ⟨b, 0, none⟩ = some (.slice (some ⟨go, 0, none⟩) no co) ∧ w'.cell? ⟨go, j, none⟩ = some (.int .i64 ov)) (go_keep)
          (first
            | (refine step_append_run (by rfl) _ _ _ (by rfl) _ _ _ _ (by rfl) (by rfl) hap.out ?_; clear hap))
        go_wp2_with fail
        go_roundg (gk - 1)
        case rel => exact ⟨i + 1, c', a', by omega, by go_num, rfl, hd ⟨os2, qs2, _, HI7.out, HH2.out, HH3.out, HH4.out⟩⟩
        case measure => omega
end Go.Proofs.Ytdihbbpndijdoaa
