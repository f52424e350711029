/- The document's side: Lay, New. -/
import Derived.Test.YtknklbojcnhjcaaPR4
import Derived.Test.YtknklbojcnhjcaaPF3
namespace Go.Proofs.Ytknklbojcnhjcaa
open Go.RowKit

set_option maxRecDepth 100000 in
set_option maxHeartbeats 1000000 in
theorem rplay_arg {room : Int} {a : Option Addr} {n c : Nat} {cursor : Int} {w : World} (h : mayP n room = false) :
    Calls Try.prog 9 #[.int .i64 room, .slice a n c, .int .i64 cursor] w (Refused w 1) := by
  have hc : (n : Int) < 1 ∨ (¬ (n : Int) < 1 ∧ 9 < (n : Int)) ∨ ((¬ (n : Int) < 1 ∧ ¬ 9 < (n : Int)) ∧ room < 1) ∨ (((¬ (n : Int) < 1 ∧ ¬ 9 < (n : Int)) ∧ ¬ room < 1) ∧ 64 < room) := by
    simp [mayP] at h
    omega
  clear h
  rcases hc with h1 | ⟨h1, h2⟩ | ⟨⟨h1, h2⟩, h3⟩ | ⟨⟨⟨h1, h2⟩, h3⟩, h4⟩
  · have h1' : decide ((n : Int) < 1) = true := by simpa using h1
    have h1n : decide (n < 1) = true := by simp; omega
    have h1z : n < 1 := by omega
    clear h1
    go_enter Try.func9, Try.ntmps9
    go_wp2_with fail
    go_ret2
    exact ⟨rfl, below_same _⟩
  · have h1' : decide ((n : Int) < 1) = false := by simpa using h1
    have h1n : decide (n < 1) = false := by simp; omega
    have h2n : 9 < n := by omega
    clear h1
    go_enter Try.func9, Try.ntmps9
    go_wp2_with fail
    go_ret2
    exact ⟨rfl, below_same _⟩
  · have h1' : decide ((n : Int) < 1) = false := by simpa using h1
    have h1n : decide (n < 1) = false := by simp; omega
    have h2' : decide (9 < (n : Int)) = false := by simpa using h2
    have h2n : decide (9 < n) = false := by simp; omega
    clear h1 h2
    go_enter Try.func9, Try.ntmps9
    go_wp2_with fail
    go_ret2
    exact ⟨rfl, below_same _⟩
  · have h1' : decide ((n : Int) < 1) = false := by simpa using h1
    have h1n : decide (n < 1) = false := by simp; omega
    have h2' : decide (9 < (n : Int)) = false := by simpa using h2
    have h2n : decide (9 < n) = false := by simp; omega
    have h3' : decide (room < 1) = false := by simpa using h3
    clear h1 h2 h3
    go_enter Try.func9, Try.ntmps9
    go_wp2_with fail
    go_ret2
    exact ⟨rfl, below_same _⟩
set_option maxRecDepth 100000 in
set_option maxHeartbeats 1000000 in
theorem rplay_range {room : Int} {a : Option Addr} {n c : Nat} {cursor : Int} {w : World} (h : mayP n room = true) (hc : cursor < 0 ∨ (n : Int) ≤ cursor) :
    Calls Try.prog 9 #[.int .i64 room, .slice a n c, .int .i64 cursor] w (Refused w 2) := by
  have hm := mayP_yes h
  have h1' : decide ((n : Int) < 1) = false := by simp; omega
  have h1n : decide (n < 1) = false := by simp; omega
  have h2' : decide (9 < (n : Int)) = false := by simp; omega
  have h2n : decide (9 < n) = false := by simp; omega
  have h3' : decide (room < 1) = false := by simp; omega
  have h4' : decide (64 < room) = false := by simp; omega
  clear h hm
  by_cases h0 : cursor < 0
  · clear hc
    go_enter Try.func9, Try.ntmps9
    go_wp2_with fail
    go_ret2
    exact ⟨rfl, below_same _⟩
  · have h1 : (n : Int) ≤ cursor := by omega
    have h0' : decide (cursor < 0) = false := by simp; omega
    have h0'' : 0 ≤ cursor := by omega
    clear hc h0
    go_enter Try.func9, Try.ntmps9
    go_wp2_with fail
    go_ret2
    exact ⟨rfl, below_same _⟩

set_option maxRecDepth 100000 in
set_option maxHeartbeats 2000000 in
theorem rplay_any {room : Nat} {a : Option Addr} {l : List TLn} {c : Nat} {cur : Nat} {w : World} (hA : ALs w a l) (hn : l.length ≤ 9) (hn1 : 1 ≤ l.length) (hr1 : 1 ≤ room) (hr2 : room ≤ 64) (hc : cur < l.length) (hf : FitT l) :
    Calls Try.prog 9 #[.int .i64 (room : Int), .slice a l.length c, .int .i64 (cur : Int)] w (LayOut w 65 91 66 room l cur) := by
  have HM := hd (Mk.new w 65 91 66 cur)
  have HA := hd hA
  have hc' : (cur : Int) < (l.length : Int) := by omega
  have hcd : decide ((l.length : Int) ≤ (cur : Int)) = false := by simp; omega
  have hc0 : decide ((cur : Int) < 0) = false := by simp
  have hcn : decide (l.length ≤ cur) = false := by simp; omega
  have g1 : decide ((l.length : Int) < 1) = false := by simp; omega
  have g2 : decide ((9 : Int) < (l.length : Int)) = false := by simp; omega
  have g1n : decide (l.length < 1) = false := decide_eq_false (by omega)
  have g2n : decide (9 < l.length) = false := by simp; omega
  have g3 : decide ((room : Int) < 1) = false := by simp; omega
  have g4 : decide ((64 : Int) < (room : Int)) = false := by simp; omega
  have g3n : decide (room < 1) = false := by simp; omega
  have g4n : decide (64 < room) = false := by simp; omega
  obtain ⟨Q, hQ⟩ : ∃ Q : Ending → World → Prop, Hid (LayOut w 65 91 66 room l cur = Q) := ⟨_, rfl⟩
  rw [hQ.out]
  obtain ⟨n, hnn⟩ : ∃ n, Hid (l.length = n) := ⟨_, rfl⟩
  rw [hnn.out] at hc' hcd hcn hn hn1 g1 g2 g1n g2n ⊢
  clear hA
  go_enter Try.func9, Try.ntmps9
  go_wp2_with fail
  obtain ⟨b, hb⟩ : ∃ b, Hid (w.heap.size = b) := ⟨_, rfl⟩
  rw [hb.out] at HM ⊢
  go_loopg [9] n (fun k v9 wr => ∃ i : Nat, v9 = .int .i64 (i : Int) ∧ i + k = n ∧ Hid ((∀ j, j < i → MayL room (tAt l j).vs (tAt l j).ws (tAt l j).tk (tAt l j).dr) ∧ ∃ a' cap', Mk w 65 91 66 b ((l.take i).map (·.ls room)) cur a' cap' wr))
  case atStart => exact ⟨0, rfl, by omega, hd ⟨fun j hj => by omega, none, 0, by simpa using HM.out⟩⟩
  case round =>
    obtain ⟨i, rfl, hik, HH⟩ := hrel
    clear HM
    by_cases hlt : i < n
    · have hlt' : (i : Int) < (n : Int) := by omega
      obtain ⟨hmay, a', cap', hMk⟩ := HH.out
      have HK := hd hMk
      have hil : i < l.length := by rw [hnn.out]; exact hlt
      have HAr := hd (HA.out.below (show Below w.heap.size w wr by obtain ⟨_, _, _, _, h3⟩ := hMk; exact h3))
      obtain ⟨ba, oa, rfl, c0, c1, c2, c3⟩ := HAr.out.at i hil
      obtain ⟨t, ht⟩ : ∃ t, Hid (tAt l i = t) := ⟨_, rfl⟩
      have HT : Hid (t ∈ l) := hd (by rw [← ht.out]; exact tAt_mem hil)
      rw [ht.out] at c0 c1 c2 c3
      have hAL := HAr.out.el t HT.out
      have hb1 := below_same wr
      have hfit := hf t HT.out
      have HMA := hd hmay
      clear hMk hmay
      obtain ⟨vn, hvn⟩ : ∃ vn, Hid (t.vs.length = vn) := ⟨_, rfl⟩
      obtain ⟨wn, hwn⟩ : ∃ wn, Hid (t.ws.length = wn) := ⟨_, rfl⟩
      by_cases hma : MayL room t.vs t.ws t.tk t.dr
      · have hly := rlay_ok (c1 := t.c1) (c2 := t.c2) (hAL.below hb1) hr1 hr2 (by omega) hma
        have HMAY := hd hma
        rw [hvn.out, hwn.out] at hly
        rw [hvn.out] at c0
        rw [hwn.out] at c1
        have HB1 := hd hb1
        clear hma hfit hAL hb1
        go_upto_region 12 with (first | (go_at_call 22; refine hly.mono ?_; rintro e2 w2 ⟨bl, F1, rfl, hL, hF1, b2⟩))
        have HB2 := hd (HB1.out.trans (b2.mono HB1.out.size))
        have HL := hd hL
        have HF1 : Hid (∀ k, F1 k → wr.heap.size ≤ k) := hd (fun k hk => Nat.le_trans HB1.out.size (hF1 k hk))
        have HK2 := hd (HK.out.bel HB2.out)
        obtain ⟨q0, q1⟩ := HK2.out.cells
        obtain ⟨xs, hrow⟩ := HK2.out.row
        have hlen : ((l.take i).map (·.ls room)).length = i := by simp; omega
        rw [hlen] at q0 hrow
        obtain ⟨a2, cap2, w3, hap, R3, M3, B3⟩ := push_any (us := [.pointer (some ⟨bl, 0, none⟩)]) Try.underlying63 infoRP rfl (by decide) hrow (by omega) rfl (fun u hu => by simp at hu; subst hu; rfl)
        have hbd : ∀ k, blk a' = some k → k ≠ b := by
          obtain ⟨bs, Fs, h1, _, _⟩ := HK2.out
          exact fun k hk => (h1.fa k hk).1
        have hbl2 : b < w2.heap.size := by
          obtain ⟨bs, Fs, h1, _, _⟩ := HK2.out
          exact h1.blt
        have z0 : w3.cell? ⟨b, 0, none⟩ = some (.slice a' i cap') := (M3.cell hbl2 (fun e => hbd b e rfl)).trans q0
        have z1 : w3.frozen? ⟨b, 0, none⟩ = false := by
          obtain ⟨bs, Fs, h1, _, _⟩ := HK2.out
          exact (M3.frozen hbl2 (fun e => hbd b e rfl)).trans (h1.free 0)
        have HE : Hid (∃ a' cap', Mk w 65 91 66 b ((l.take (i + 1)).map (·.ls room)) cur a' cap' (w3.setCell ⟨b, 0, none⟩ (.slice a2 (i + 1) cap2))) := hd (by
          refine ⟨a2, cap2, ?_⟩
          rw [map_take_snoc l room i hil, ht.out]
          have := HK.out.push HB2.out HL.out HF1.out (a' := a2) (cap' := cap2) (w' := w3) (fun ys hys => by
            rw [hlen] at hys ⊢
            obtain ⟨a3, cap3, w4, hap2, R4, M4, B4⟩ := push_any (us := [.pointer (some ⟨bl, 0, none⟩)]) Try.underlying63 infoRP rfl (by decide) hys (by omega) rfl (fun u hu => by simp at hu; subst hu; rfl)
            have e := (hap 0).symm.trans (hap2 0)
            cases e
            exact R4) M3 B3
          rw [hlen] at this
          exact this)
        clear R3 M3 B3 HK HK2 hly b2 hL hF1 hrow hbd hbl2 q1
        have hap := hd hap
        go_wp2_with (first | (at_builtin; refine wpList_append_run rfl _ _ _ rfl _ _ _ _ rfl rfl hap.out ?_))
        go_roundg (gk - 1)
        case measure => omega
        case rel => exact ⟨i + 1, by go_num, by omega, hd ⟨fun j hj => by
          by_cases e : j = i
          · rw [e, ht.out]; exact HMAY.out
          · exact HMA.out j (by omega), HE.out⟩⟩
      · have hly := rlay_form (c1 := t.c1) (c2 := t.c2) (room := (room : Int)) (hAL.below hb1) (by omega) (by omega) (by omega) hma
        have HMAY := hd hma
        rw [hvn.out, hwn.out] at hly
        rw [hvn.out] at c0
        rw [hwn.out] at c1
        have HB1 := hd hb1
        clear hma hfit hAL hb1
        go_wp2_with (first | (go_at_call 22; refine hly.mono ?_; rintro e2 w2 ⟨rfl, b2⟩))
        rw [← hQ.out]
        refine .inr ⟨⟨t, HT.out, HMAY.out⟩, rfl, ?_⟩
        obtain ⟨_, _, _, _, h3⟩ := HK.out
        have h4 := HB1.out.trans (b2.mono HB1.out.size)
        exact h3.trans (h4.mono h3.size)
    · have hltd : decide ((i : Int) < (n : Int)) = false := by simp; omega
      have hle : (n : Int) ≤ (i : Int) := by omega
      go_wp2_with fail
      rw [← hQ.out]
      obtain ⟨hmay, a', cap', hMk⟩ := HH.out
      refine .inl ⟨fun t ht => ?_, ?_⟩
      · obtain ⟨j, hj, rfl⟩ := tAt_of_mem ht
        exact hmay j (by have := hnn.out; omega)
      · rw [List.take_of_length_le (by have := hnn.out; omega)] at hMk
        exact hMk.made
theorem rplay_all {room cursor : Int} {a : Option Addr} {l : List TLn} {c : Nat} {w : World} (hA : ALs w a l) (hf : FitT l) :
    Calls Try.prog 9 #[.int .i64 room, .slice a l.length c, .int .i64 cursor] w (LayR w 65 91 66 room l cursor) := by
  cases hm : mayP l.length room with
  | false => exact (rplay_arg hm).mono (fun e w' h => .inl ⟨1, .inl ⟨hm, rfl⟩, h⟩)
  | true =>
    by_cases hc : cursor < 0 ∨ (l.length : Int) ≤ cursor
    · exact (rplay_range hm hc).mono (fun e w' h => .inl ⟨2, .inr (.inl ⟨hm, hc, rfl⟩), h⟩)
    · have h1 := mayP_yes hm
      obtain ⟨R, rfl⟩ : ∃ R : Nat, room = R := ⟨room.toNat, by omega⟩
      obtain ⟨cur, rfl⟩ : ∃ cur : Nat, cursor = cur := ⟨cursor.toNat, by omega⟩
      refine (rplay_any hA (by omega) (by omega) (by omega) (by omega) (by omega) hf).mono (fun e w' h => ?_)
      rcases h with ⟨h2, h3⟩ | ⟨h2, h3⟩
      · exact .inr ⟨R, cur, ⟨rfl, rfl, by omega, by omega, by omega, by omega, by omega, h2⟩, h3⟩
      · exact .inl ⟨4, .inr (.inr ⟨hm, by omega, h2, rfl⟩), h3⟩

set_option maxRecDepth 100000 in
set_option maxHeartbeats 1000000 in
theorem rpnew_no {n : Nat} {room : Int} {w : World} (h : mayP n room = false) : Calls Try.prog 13 #[.int .i64 (n : Int), .int .i64 room] w (Refused w 1) := by
  have hc : (n : Int) < 1 ∨ (¬ (n : Int) < 1 ∧ 9 < (n : Int)) ∨ ((¬ (n : Int) < 1 ∧ ¬ 9 < (n : Int)) ∧ room < 1) ∨ (((¬ (n : Int) < 1 ∧ ¬ 9 < (n : Int)) ∧ ¬ room < 1) ∧ 64 < room) := by
    simp [mayP] at h
    omega
  clear h
  rcases hc with h1 | ⟨h1, h2⟩ | ⟨⟨h1, h2⟩, h3⟩ | ⟨⟨⟨h1, h2⟩, h3⟩, h4⟩
  · have h1' : decide ((n : Int) < 1) = true := by simpa using h1
    have h1n : decide (n < 1) = true := by simp; omega
    have h1z : n < 1 := by omega
    clear h1
    go_enter Try.func13, Try.ntmps13
    go_wp2_with fail
    go_ret2
    exact ⟨rfl, below_same _⟩
  · have h1' : decide ((n : Int) < 1) = false := by simpa using h1
    have h1n : decide (n < 1) = false := by simp; omega
    have h2n : 9 < n := by omega
    clear h1
    go_enter Try.func13, Try.ntmps13
    go_wp2_with fail
    go_ret2
    exact ⟨rfl, below_same _⟩
  · have h1' : decide ((n : Int) < 1) = false := by simpa using h1
    have h1n : decide (n < 1) = false := by simp; omega
    have h2' : decide (9 < (n : Int)) = false := by simpa using h2
    have h2n : decide (9 < n) = false := by simp; omega
    clear h1 h2
    go_enter Try.func13, Try.ntmps13
    go_wp2_with fail
    go_ret2
    exact ⟨rfl, below_same _⟩
  · have h1' : decide ((n : Int) < 1) = false := by simpa using h1
    have h1n : decide (n < 1) = false := by simp; omega
    have h2' : decide (9 < (n : Int)) = false := by simpa using h2
    have h2n : decide (9 < n) = false := by simp; omega
    have h3' : decide (room < 1) = false := by simpa using h3
    clear h1 h2 h3
    go_enter Try.func13, Try.ntmps13
    go_wp2_with fail
    go_ret2
    exact ⟨rfl, below_same _⟩
set_option maxRecDepth 100000 in
theorem rpnew_ok {n room : Nat} {w : World} (h1 : 1 ≤ n) (h2 : n ≤ 9) (hr1 : 1 ≤ room) (hr2 : room ≤ 64) : Calls Try.prog 13 #[.int .i64 (n : Int), .int .i64 (room : Int)] w (MadeP w 65 91 66 (List.replicate n (LS.new room)) 0) := by
  have g1 : decide ((n : Int) < 1) = false := by simp; omega
  have g2 : decide ((9 : Int) < (n : Int)) = false := by simp; omega
  have g1n : decide (n < 1) = false := by simp; omega
  have g2n : decide (9 < n) = false := by simp; omega
  have g3 : decide ((room : Int) < 1) = false := by simp; omega
  have g4 : decide ((64 : Int) < (room : Int)) = false := by simp; omega
  have g3n : decide (room < 1) = false := by simp; omega
  have g4n : decide (64 < room) = false := by simp; omega
  have hmk := make_eq 22 29 _ 4 64 Try.underlying22 infoA n (by omega) (by unfold maxLen; omega) w
  have hly := rplay_any (room := room) (c := n) (cur := 0) (als_made w n) (by simpa using h2) (by simpa using h1) hr1 hr2 (by simp; omega) (fit_rep n)
  have HB := hd (below_al w (.cells (madeCells (Value.agg #[.slice none 0 0, .slice none 0 0, .int .i64 0, .int .i64 0]).cells (n * 4)) 29))
  obtain ⟨zs, hzs⟩ : ∃ zs, Hid (madeCells (Value.agg #[.slice none 0 0, .slice none 0 0, .int .i64 0, .int .i64 0]).cells (n * 4) = zs) := ⟨_, rfl⟩
  rw [hzs.out] at hmk hly HB
  rw [List.length_replicate] at hly
  have hly : Calls Try.prog 9 #[.int .i64 (room : Int), .slice (some ⟨w.heap.size, 0, none⟩) n n, .int .i64 0] (w.alloc (.cells zs 29)) (LayOut (w.alloc (.cells zs 29)) 65 91 66 room (List.replicate n T0) 0) := hly
  obtain ⟨R, hR⟩ : ∃ R : Ending → World → Prop, Hid (LayOut (w.alloc (.cells zs 29)) 65 91 66 room (List.replicate n T0) 0 = R) := ⟨_, rfl⟩
  rw [hR.out] at hly
  have hfin : Hid (∀ e w', R e w' → ∃ b, e = .returned (.tuple #[.pointer (some ⟨b, 0, none⟩), .int .i64 0]) ∧ MadeP w 65 91 66 (List.replicate n (LS.new room)) 0 e w') := hd (fun e w' h => by
    rw [← hR.out] at h
    rcases h with ⟨_, b, F, rfl, h3, h4, h5⟩ | ⟨⟨t, ht, hn⟩, _⟩
    · rw [rep_ls] at h3
      exact ⟨b, rfl, b, F, rfl, h3, fun k hk => Nat.le_trans HB.out.size (h4 k hk), HB.out.trans (h5.mono HB.out.size)⟩
    · exact absurd (rep_may hr1 hr2 t ht) hn)
  clear hr1 hr2
  go_enter Try.func13, Try.ntmps13
  go_wp2_with (first | (go_at_call 9; refine hly.mono ?_; rintro e2 w2 hq; obtain ⟨b, rfl, hM⟩ := hfin.out _ _ hq))
  go_ret2
  exact hM

end Go.Proofs.Ytknklbojcnhjcaa
