/- Lay, New. -/
import Derived.Test.YtknklbojcnhjcaaPW7
namespace Go.Proofs.Ytknklbojcnhjcaa
open Go.RowKit

theorem map_take_snoc (l : List TLn) (room i : Nat) (h : i < l.length) : (l.take (i + 1)).map (·.ls room) = (l.take i).map (·.ls room) ++ [(tAt l i).ls room] := by
  rw [List.take_succ_eq_append_getElem h, List.map_append]
  unfold tAt
  rw [List.getD_eq_getElem?_getD, List.getElem?_eq_getElem h]
  rfl

set_option maxRecDepth 100000 in
theorem play_arg {room : Int} {a : Option Addr} {n c : Nat} {cursor : Int} {w : World} (h : mayP n room = false) :
    Calls Try.prog 8 #[.int .i64 room, .slice a n c, .int .i64 cursor] w (Refused w 1) := by
  have hm := may_any n room w
  rw [h] at hm
  clear h
  go_enter Try.func8, Try.ntmps8
  go_wp2_with (first | (go_at_call 20; refine hm.mono ?_; rintro e1 w1 ⟨rfl, rfl⟩))
  go_ret2
  exact ⟨rfl, below_same _⟩
set_option maxRecDepth 100000 in
theorem play_range {room : Int} {a : Option Addr} {n c : Nat} {cursor : Int} {w : World} (h : mayP n room = true) (hc : cursor < 0 ∨ (n : Int) ≤ cursor) :
    Calls Try.prog 8 #[.int .i64 room, .slice a n c, .int .i64 cursor] w (Refused w 2) := by
  have hm := may_any n room w
  rw [h] at hm
  clear h
  by_cases h0 : cursor < 0
  · clear hc
    go_enter Try.func8, Try.ntmps8
    go_wp2_with (first | (go_at_call 20; refine hm.mono ?_; rintro e1 w1 ⟨rfl, rfl⟩))
    go_ret2
    exact ⟨rfl, below_same _⟩
  · have h1 : (n : Int) ≤ cursor := by omega
    have h0' : decide (cursor < 0) = false := by simp; omega
    have h0'' : 0 ≤ cursor := by omega
    clear hc h0
    go_enter Try.func8, Try.ntmps8
    go_wp2_with (first | (go_at_call 20; refine hm.mono ?_; rintro e1 w1 ⟨rfl, rfl⟩))
    go_ret2
    exact ⟨rfl, below_same _⟩

/-- Their lists are not too long, and the numbers fit. -/
def FitT (l : List TLn) : Prop := ∀ t ∈ l, t.ws.length ≤ 7000000000000 ∧ ∀ x ∈ t.ws, Fit64 x.1

set_option maxRecDepth 100000 in
set_option maxHeartbeats 2000000 in
theorem play_any {room : Nat} {a : Option Addr} {l : List TLn} {c : Nat} {cur : Nat} {w : World} (hA : ALs w a l) (hn : l.length ≤ 9) (hn1 : 1 ≤ l.length) (hr1 : 1 ≤ room) (hr2 : room ≤ 64) (hc : cur < l.length) (hf : FitT l) :
    Calls Try.prog 8 #[.int .i64 (room : Int), .slice a l.length c, .int .i64 (cur : Int)] w (LayOut w 59 89 60 room l cur) := by
  have hm := may_any l.length room w
  rw [show mayP (l.length : Int) (room : Int) = true by simp [mayP]; omega] at hm
  have HM := hd (Mk.new w 59 89 60 cur)
  have HA := hd hA
  have hc' : (cur : Int) < (l.length : Int) := by omega
  have hcd : decide ((l.length : Int) ≤ (cur : Int)) = false := by simp; omega
  have hc0 : decide ((cur : Int) < 0) = false := by simp
  have hcn : decide (l.length ≤ cur) = false := by simp; omega
  obtain ⟨Q, hQ⟩ : ∃ Q : Ending → World → Prop, Hid (LayOut w 59 89 60 room l cur = Q) := ⟨_, rfl⟩
  rw [hQ.out]
  obtain ⟨n, hnn⟩ : ∃ n, Hid (l.length = n) := ⟨_, rfl⟩
  rw [hnn.out] at hm hc' hcd hcn hn hn1 ⊢
  clear hA
  go_enter Try.func8, Try.ntmps8
  go_wp2_with (first | (go_at_call 20; refine hm.mono ?_; rintro e1 w1 ⟨rfl, rfl⟩))
  obtain ⟨b, hb⟩ : ∃ b, Hid (w1.heap.size = b) := ⟨_, rfl⟩
  rw [hb.out] at HM ⊢
  go_loopg [31] n (fun k v31 wr => ∃ i : Nat, v31 = .int .i64 (i : Int) ∧ i + k = n ∧ Hid ((∀ j, j < i → MayL room (tAt l j).vs (tAt l j).ws (tAt l j).tk (tAt l j).dr) ∧ ∃ a' cap', Mk w1 59 89 60 b ((l.take i).map (·.ls room)) cur a' cap' wr))
  case atStart => exact ⟨0, rfl, by omega, hd ⟨fun j hj => by omega, none, 0, by simpa using HM.out⟩⟩
  case round =>
    obtain ⟨i, rfl, hik, HH⟩ := hrel
    clear HM
    by_cases hlt : i < n
    · have hlt' : (i : Int) < (n : Int) := by omega
      obtain ⟨hmay, a', cap', hMk⟩ := HH.out
      have HK := hd hMk
      have hil : i < l.length := by rw [hnn.out]; exact hlt
      have HAr := hd (HA.out.below (show Below w1.heap.size w1 wr by obtain ⟨_, _, _, _, h3⟩ := hMk; exact h3))
      obtain ⟨ba, oa, rfl, c0, c1, c2, c3⟩ := HAr.out.at i hil
      obtain ⟨t, ht⟩ : ∃ t, Hid (tAt l i = t) := ⟨_, rfl⟩
      have HT : Hid (t ∈ l) := hd (by rw [← ht.out]; exact tAt_mem hil)
      rw [ht.out] at c0 c1 c2 c3
      have hAL := HAr.out.el t HT.out
      have hb1 := below_al wr (.cells #[.slice t.a1 t.vs.length t.c1, .slice t.a2 t.ws.length t.c2, .int .i64 t.tk, .int .i64 t.dr] 29)
      have hfit := hf t HT.out
      have HMA := hd hmay
      clear hMk hmay
      obtain ⟨vn, hvn⟩ : ∃ vn, Hid (t.vs.length = vn) := ⟨_, rfl⟩
      obtain ⟨wn, hwn⟩ : ∃ wn, Hid (t.ws.length = wn) := ⟨_, rfl⟩
      obtain ⟨d0, d1, d2, d3⟩ := box4 wr (.slice t.a1 vn t.c1) (.slice t.a2 wn t.c2) (.int .i64 t.tk) (.int .i64 t.dr) 29
      by_cases hma : MayL room t.vs t.ws t.tk t.dr
      · have hly := lay_ok (c1 := t.c1) (c2 := t.c2) (hAL.below hb1) hr1 hr2 (by omega) hfit.2 hma
        have HMAY := hd hma
        rw [hvn.out, hwn.out] at hly hb1
        rw [hvn.out] at c0
        rw [hwn.out] at c1
        have HB1 := hd hb1
        clear hma hfit hAL hb1
        go_upto_region 12 with (first | (go_at_call 21; refine hly.mono ?_; rintro e2 w2 ⟨bl, F1, rfl, hL, hF1, b2⟩))
        have HB2 := hd (HB1.out.trans (b2.mono HB1.out.size))
        have HL := hd hL
        have HF1 : Hid (∀ k, F1 k → wr.heap.size ≤ k) := hd (fun k hk => Nat.le_trans HB1.out.size (hF1 k hk))
        have HK2 := hd (HK.out.bel HB2.out)
        obtain ⟨q0, q1⟩ := HK2.out.cells
        obtain ⟨xs, hrow⟩ := HK2.out.row
        have hlen : ((l.take i).map (·.ls room)).length = i := by simp; omega
        rw [hlen] at q0 hrow
        obtain ⟨a2, cap2, w3, hap, R3, M3, B3⟩ := push_any (us := [.pointer (some ⟨bl, 0, none⟩)]) Try.underlying57 infoP rfl (by decide) hrow (by omega) rfl (fun u hu => by simp at hu; subst hu; rfl)
        have hbd : ∀ k, blk a' = some k → k ≠ b := by
          obtain ⟨bs, Fs, h1, _, _⟩ := HK2.out
          exact fun k hk => (h1.fa k hk).1
        have hbl2 : b < w2.heap.size := by
          obtain ⟨bs, Fs, h1, _, _⟩ := HK2.out
          exact h1.blt
        have z0 : w3.cell? ⟨b, 0, none⟩ = some (.slice a' i cap') := (M3.cell hbl2 (fun e => hbd b e rfl)).trans q0
        have z1 : w3.frozen? ⟨b, 0, none⟩ = false := by
          obtain ⟨bs, Fs, h1, _, _⟩ := HK2.out
          exact (M3.frozen hbl2 (fun e => hbd b e rfl)).trans (h1.free 0)
        have HE : Hid (∃ a' cap', Mk w1 59 89 60 b ((l.take (i + 1)).map (·.ls room)) cur a' cap' (w3.setCell ⟨b, 0, none⟩ (.slice a2 (i + 1) cap2))) := hd (by
          refine ⟨a2, cap2, ?_⟩
          rw [map_take_snoc l room i hil, ht.out]
          have := HK.out.push HB2.out HL.out HF1.out (a' := a2) (cap' := cap2) (w' := w3) (fun ys hys => by
            rw [hlen] at hys ⊢
            obtain ⟨a3, cap3, w4, hap2, R4, M4, B4⟩ := push_any (us := [.pointer (some ⟨bl, 0, none⟩)]) Try.underlying57 infoP rfl (by decide) hys (by omega) rfl (fun u hu => by simp at hu; subst hu; rfl)
            have e := (hap 0).symm.trans (hap2 0)
            cases e
            exact R4) M3 B3
          rw [hlen] at this
          exact this)
        clear R3 M3 B3 HK HK2 hly b2 hL hF1 hrow hbd hbl2 d0 d1 d2 d3 q1
        have hap := hd hap
        go_wp2_with (first | (at_builtin; refine wpList_append_run rfl _ _ _ rfl _ _ _ _ rfl rfl hap.out ?_))
        go_roundg (gk - 1)
        case measure => omega
        case rel => exact ⟨i + 1, by go_num, by omega, hd ⟨fun j hj => by
          by_cases e : j = i
          · rw [e, ht.out]; exact HMAY.out
          · exact HMA.out j (by omega), HE.out⟩⟩
      · have hly := lay_form (c1 := t.c1) (c2 := t.c2) (room := (room : Int)) (hAL.below hb1) (by omega) (by omega) (by omega) hfit.2 hma
        have HMAY := hd hma
        rw [hvn.out, hwn.out] at hly hb1
        rw [hvn.out] at c0
        rw [hwn.out] at c1
        have HB1 := hd hb1
        clear hma hfit hAL hb1
        go_wp2_with (first | (go_at_call 21; refine hly.mono ?_; rintro e2 w2 ⟨rfl, b2⟩))
        rw [← hQ.out]
        refine .inr ⟨⟨t, HT.out, HMAY.out⟩, rfl, ?_⟩
        obtain ⟨_, _, _, _, h3⟩ := HK.out
        have h4 := HB1.out.trans (b2.mono HB1.out.size)
        exact h3.trans (h4.mono h3.size)
    · have hltd : decide ((i : Int) < (n : Int)) = false := by simp; omega
      have hle : (n : Int) ≤ (i : Int) := by omega
      go_wp2_with fail
      rw [← hQ.out]
      obtain ⟨hmay, a', cap', hMk⟩ := HH.out
      refine .inl ⟨fun t ht => ?_, ?_⟩
      · obtain ⟨j, hj, rfl⟩ := tAt_of_mem ht
        exact hmay j (by have := hnn.out; omega)
      · rw [List.take_of_length_le (by have := hnn.out; omega)] at hMk
        exact hMk.made
end Go.Proofs.Ytknklbojcnhjcaa
