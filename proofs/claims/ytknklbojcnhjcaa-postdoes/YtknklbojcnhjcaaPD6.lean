/- PostDoes' walk. -/
import Derived.Test.YtknklbojcnhjcaaPD5
namespace Go.Proofs.Ytknklbojcnhjcaa
open Go.RowKit

set_option maxRecDepth 100000 in
theorem pdoes_long {room cursor : Int} {a : Option Addr} {c : Nat} {l : List TLn} {v : Value} {w : World} (hA : ALs w a l) (hl : l.length ≤ 8000000000000) (hlg : longT l) :
    Calls Try.prog 3 #[.int .i64 room, .slice a l.length c, .int .i64 cursor, v] w fun e w' => e = .returned (.bool true) ∧ Below w.heap.size w w' := by
  have hf := fixed_any w
  have hlo := fun (W : World) (hb : Below w.heap.size w W) => long_any (c := c) (hA.below hb).rd hl true (by simp [hlg])
  obtain ⟨n, hnn⟩ : ∃ n, Hid (l.length = n) := ⟨_, rfl⟩
  rw [hnn.out] at hlo ⊢
  clear hA hl hlg
  go_enter Try.func3, Try.ntmps3
  go_wp2_with (first | (go_at_call 5; refine hf.mono ?_; rintro e1 w1 ⟨rfl, b1⟩; have hlo1 := hlo w1 b1) | (go_at_call 6; refine hlo1.mono ?_; rintro e2 w1 ⟨rfl, rfl⟩))
  go_ret
  exact ⟨rfl, b1⟩

set_option maxRecDepth 100000 in
set_option maxHeartbeats 16000000 in
theorem pdoes_short {room cursor : Int} {a a3 : Option Addr} {c c3 : Nat} {l : List TLn} {sc : List (Int × Int × Int × Int)} {w : World} (hA : ALs w a l) (hF : ∀ t ∈ l, ∀ x ∈ t.ws, Fit64 x.1) (hS : Rd w a3 (sC sc)) (hfz : ∀ x ∈ sc, Fit64 x.2.2.1) (hsl : sc.length ≤ 6000000000000) (hlg : ¬ longT l) :
    Calls Try.prog 3 #[.int .i64 room, .slice a l.length c, .int .i64 cursor, .slice a3 sc.length c3] w fun e w' => e = .returned (.bool true) ∧ Below w.heap.size w w' := by
  have hl : l.length ≤ 1048576 := by
    rcases Nat.lt_or_ge 1048576 l.length with h | h
    · exact absurd (.inr h) hlg
    · exact h
  have hvl : ∀ t ∈ l, t.vs.length ≤ 1048576 ∧ t.ws.length ≤ 4096 := fun t ht => by
    refine ⟨?_, ?_⟩
    · rcases Nat.lt_or_ge 1048576 t.vs.length with h | h
      · exact absurd (.inl ⟨t, ht, .inl h⟩) hlg
      · exact h
    · rcases Nat.lt_or_ge 4096 t.ws.length with h | h
      · exact absurd (.inl ⟨t, ht, .inr h⟩) hlg
      · exact h
  have hf := fixed_any w
  have hlo := fun (W : World) (hb : Below w.heap.size w W) => long_any (c := c) (hA.below hb).rd (by omega) false (by simp [hlg])
  have HA := hd hA
  have HS := hd hS
  have HVL := hd hvl
  have HFT : Hid (FitT l) := hd (fun t ht => ⟨by have := (hvl t ht).2; omega, hF t ht⟩)
  have HFZ := hd hfz
  obtain ⟨n, hnn⟩ : ∃ n, Hid (l.length = n) := ⟨_, rfl⟩
  obtain ⟨M, hM⟩ : ∃ M, Hid (sc.length = M) := ⟨_, rfl⟩
  rw [hnn.out] at hlo hl ⊢
  rw [hM.out] at hsl ⊢
  clear hA hlg hS hvl hF hfz
  go_enter Try.func3, Try.ntmps3
  go_upto_region 4 with (first | (go_at_call 5; refine hf.mono ?_; rintro e1 w1 ⟨rfl, b1⟩; have hlo1 := hlo w1 b1) | (go_at_call 6; refine hlo1.mono ?_; rintro e2 w1 ⟨rfl, rfl⟩))
  have HT0 : Hid (TlOut w (w1.alloc (.cells #[] 29)) (some ⟨w1.heap.size, 0, none⟩) 0 []) := hd (by
    have h1 := TlOut.new w1
    exact ⟨h1.row, TlAt.nil _ _, fun k hk => ⟨Nat.le_trans b1.size (h1.ge k hk).1, fun i hi => by simp at hi⟩, b1.trans (h1.bel.mono b1.size)⟩)
  clear hf hlo hlo1 b1
  go_wp2_with fail
  go_loopg [10, 11] (min n 20) (fun k v10 v11 wr => ∃ (i : Nat) (ax : Option Addr) (cx : Nat), v11 = .int .i64 (i : Int) ∧ v10 = .slice ax i cx ∧ i + k = min n 20 ∧ Hid (∃ lo, lo.length = i ∧ TlOut w wr ax cx lo ∧ OwnE l lo))
  case atStart => exact ⟨0, _, 0, rfl, rfl, by omega, hd ⟨[], rfl, HT0.out, fun j hj => by simp at hj⟩⟩
  case round =>
    obtain ⟨i, ax, cx, rfl, rfl, hik, HH⟩ := hrel
    clear HT0
    by_cases hlt : i < min n 20
    · have hin : i < n := by omega
      have hi20 : i < 20 := by omega
      have hin' : (i : Int) < (n : Int) := by omega
      have hi20' : (i : Int) < 20 := by omega
      have hil : i < l.length := by rw [hnn.out]; exact hin
      obtain ⟨lo, hlen, hO, hV⟩ := HH.out
      have hAr := HA.out.below hO.bel
      obtain ⟨ba, oa, rfl, c0, c1, c2, c3'⟩ := hAr.at i hil
      have hcp := copy_any (tk := (tAt l i).tk) (dr := (tAt l i).dr) (c1 := (tAt l i).c1) (c2 := (tAt l i).c2) (w := wr) (hAr.el _ (tAt_mem hil)) (by have := (HVL.out _ (tAt_mem hil)).1; omega) (by have := (HVL.out _ (tAt_mem hil)).2; omega)
      have HN : Hid (∀ (w1 : World) (a1 a2 : Option Addr) (c1 c2 : Nat), OwnAL wr w1 (tAt l i).vs (tAt l i).ws a1 c1 a2 c2 → ∃ a' c' w2, (∀ ty, (Builtin.append_ #[22, 22] ty #[.slice ax i cx, .slice (some ⟨w1.heap.size, 0, none⟩) 1 1]).run Try.prog (w1.alloc (.cells #[.slice a1 (tAt l i).vs.length c1, .slice a2 (tAt l i).ws.length c2, .int .i64 (tAt l i).tk, .int .i64 (tAt l i).dr] 29)) = .ok (.slice a' (i + 1) c') w2) ∧ ∃ lo, lo.length = i + 1 ∧ TlOut w w2 a' c' lo ∧ OwnE l lo) := hd (fun w1 a1 a2 c1 c2 ho => by
        have hR := hO.row.below ho.bel
        rw [hlen] at hR
        obtain ⟨a3, c3, w3, hap, R3, M3, B3⟩ := push_any (us := [.slice a1 (tAt l i).vs.length c1, .slice a2 (tAt l i).ws.length c2, .int .i64 (tAt l i).tk, .int .i64 (tAt l i).dr]) Try.underlying22 infoA rfl (by decide) hR (by omega) rfl (fun u hu => by simp at hu; rcases hu with rfl | rfl | rfl | rfl <;> rfl)
        refine ⟨a3, c3, w3, hap, lo ++ [⟨(tAt l i).vs, (tAt l i).ws, (tAt l i).tk, (tAt l i).dr, a1, c1, a2, c2⟩], by simp [hlen], hO.push ho _ _ (by rw [hlen]; exact R3) M3 B3, fun j hj => ?_⟩
        rw [List.length_append] at hj
        simp only [List.length_singleton] at hj
        by_cases e : j = lo.length
        · subst e
          rw [tAt_app_eq, hlen]
          exact ⟨rfl, rfl, rfl, rfl⟩
        · rw [tAt_app_lt (by omega)]
          exact hV j (by omega))
      obtain ⟨t, ht⟩ : ∃ t, Hid (tAt l i = t) := ⟨_, rfl⟩
      rw [ht.out] at c0 c1 c2 c3' hcp HN
      obtain ⟨vn, hvn⟩ : ∃ vn, Hid (t.vs.length = vn) := ⟨_, rfl⟩
      obtain ⟨wn, hwn⟩ : ∃ wn, Hid (t.ws.length = wn) := ⟨_, rfl⟩
      rw [hvn.out] at c0 hcp HN
      rw [hwn.out] at c1 hcp HN
      clear hO hV hil hlen hAr
      go_wp2_with (first
        | (go_at_call 7; refine hcp.mono ?_; rintro e3 w3 ⟨x1, y1, x2, y2, rfl, ho⟩
           obtain ⟨a', c', w4, hap, HX⟩ := HN.out _ _ _ _ _ ho
           replace hap := hd hap
           replace HX := hd HX
           clear ho)
        | (at_builtin; refine wpList_append_run rfl _ _ _ rfl _ _ _ _ rfl rfl hap.out ?_; clear hap))
      go_roundg (gk - 1)
      case measure => omega
      case rel => exact ⟨i + 1, a', c', by go_num, rfl, by omega, HX⟩
    · obtain ⟨lo, hlen, hO, hV⟩ := HH.out
      have HO := hd hO
      have HV := hd hV
      have HLEN := hd hlen
      have HFO : Hid (FitT lo) := hd (fun t ht => by
        obtain ⟨j, hj, rfl⟩ := tAt_of_mem ht
        rw [(hV j hj).2.1]
        exact HFT.out _ (tAt_mem (by have := hnn.out; omega)))
      have HLT : Hid (LenT lo) := hd (fun t ht => by
        obtain ⟨j, hj, rfl⟩ := tAt_of_mem ht
        rw [(hV j hj).1, (hV j hj).2.1]
        have := HVL.out _ (tAt_mem (l := l) (i := j) (by have := hnn.out; omega))
        exact ⟨by omega, by omega⟩)
      have HLB : Hid (∀ k, tlf ax lo k → w.heap.size ≤ k ∧ k < wr.heap.size) := hd (fun k hk => ⟨hO.in.from k hk, hO.in.lt k hk⟩)
      have HSP : Hid (∀ W, Below wr.heap.size wr W → Calls Try.prog 11 #[.slice ax i cx] W fun e w' => e = .returned (.tuple #[]) ∧ Mod (tlf ax lo) W w') := hd (fun W hb => by
        have := pspoil_any (HO.out.in.below hb) (by have := HLEN.out; omega) HLT.out
        rwa [HLEN.out] at this)
      clear hO hV hlen
      by_cases h20 : 20 < n
      · obtain rfl : i = 20 := by omega
        have hin' : ((20 : Nat) : Int) < (n : Int) := by omega
        have hin2 : (20 : Int) < (n : Int) := by omega
        have hin3 : 20 < n := h20
        have hmp : mayP (n : Int) room = false := by simp [mayP]; omega
        have hly1 := play_err (room := room) (cursor := cursor) (er := 1) (c := cx) HO.out.als HFO.out (.inl ⟨by rw [HLEN.out]; simp [mayP], rfl⟩)
        rw [HLEN.out] at hly1
        go_upto_region 10 with (first | (go_at_call 8; refine hly1.mono ?_; rintro e2 w2 ⟨rfl, b2⟩))
        have HB2 := hd (HO.out.bel.trans (b2.mono HO.out.bel.size))
        have HR2 := hd b2
        have hly2 := rplay_err (room := room) (cursor := cursor) (er := 1) (c := c) (HA.out.below HB2.out) HFT.out (.inl ⟨by rw [hnn.out]; exact hmp, rfl⟩)
        rw [hnn.out] at hly2
        clear hly1 b2
        go_upto_region 11 with (first | (go_at_call 9; refine hly2.mono ?_; rintro e3 w3 ⟨rfl, b3⟩))
        have HB3 := hd (HB2.out.trans (b3.mono HB2.out.size))
        have HR3 := hd (HR2.out.trans (b3.mono HR2.out.size))
        have hsp := HSP.out w3 HR3.out
        clear hly2 b3
        go_upto_region 13 with (first | (go_at_call 11; refine hsp.mono ?_; rintro e5 w5 ⟨rfl, M5⟩))
        have HB5 : Hid (Below w.heap.size w w5) := hd (HB3.out.trans (M5.below HB3.out.size (fun k _ hk => (HLB.out k hk).1)))
        clear M5 hsp
        have hn6 := pnew_no (n := (n : Int)) (room := room) (w := w5) hmp
        go_upto_region 16 with (first | (go_at_call 12; refine hn6.mono ?_; rintro e6 w6 ⟨rfl, b6⟩))
        have HB6 := hd (HB5.out.trans (b6.mono HB5.out.size))
        have hn7 := rpnew_no (n := n) (room := room) (w := w6) hmp
        clear hn6 b6
        go_wp2_with (first | (go_at_call 13; refine hn7.mono ?_; rintro e7 w7 ⟨rfl, b7⟩))
        go_ret
        exact ⟨rfl, HB6.out.trans (b7.mono HB6.out.size)⟩
      · obtain rfl : i = n := by omega
        obtain ⟨n, hni⟩ : ∃ n, n = i := ⟨_, rfl⟩
        subst hni
        have hn20 : decide ((20 : Int) < (n : Int)) = false := by simp; omega
        have hn20n : decide (20 < n) = false := by simp; omega
        have HEQ : Hid (Eqv lo l) := hd (HV.out.eqv (by rw [HLEN.out, hnn.out]))
        rcases lay_cases room l cursor with ⟨er, hE⟩ | ⟨R, cur, hMy⟩
        · have HER := hd hE
          have hly1 := play_err (room := room) (cursor := cursor) (er := er) (c := cx) HO.out.als HFO.out (HEQ.out.err hE)
          rw [HLEN.out] at hly1
          clear hE
          cases hmp : mayP (n : Int) room with
          | false =>
            go_upto_region 10 with (first | (go_at_call 8; refine hly1.mono ?_; rintro e2 w2 ⟨rfl, b2⟩))
            have HB2 := hd (HO.out.bel.trans (b2.mono HO.out.bel.size))
            have HR2 := hd b2
            have hly2 := rplay_err (room := room) (cursor := cursor) (er := er) (c := c) (HA.out.below HB2.out) HFT.out HER.out
            rw [hnn.out] at hly2
            clear hly1 b2
            go_upto_region 11 with (first | (go_at_call 9; refine hly2.mono ?_; rintro e3 w3 ⟨rfl, b3⟩))
            have HB3 := hd (HB2.out.trans (b3.mono HB2.out.size))
            have HR3 := hd (HR2.out.trans (b3.mono HR2.out.size))
            have hsm := psame_any (c := cx) (e := c) (HO.out.als.below HR3.out) (HA.out.below HB3.out) HEQ.out (by have := HLEN.out; omega) HLT.out
            rw [HLEN.out, hnn.out] at hsm
            clear hly2 b3
            go_upto_region 12 with (first | (go_at_call 10; refine hsm.mono ?_; rintro e4 w4 ⟨rfl, b4⟩))
            have HB4 := hd (HB3.out.trans (b4.mono HB3.out.size))
            have HR4 := hd (HR3.out.trans (b4.mono HR3.out.size))
            have hsp := HSP.out w4 HR4.out
            clear hsm b4
            go_upto_region 13 with (first | (go_at_call 11; refine hsp.mono ?_; rintro e5 w5 ⟨rfl, M5⟩))
            have HB5 : Hid (Below w.heap.size w w5) := hd (HB4.out.trans (M5.below HB4.out.size (fun k _ hk => (HLB.out k hk).1)))
            clear M5 hsp
            have hn6 := pnew_no (n := (n : Int)) (room := room) (w := w5) hmp
            go_upto_region 16 with (first | (go_at_call 12; refine hn6.mono ?_; rintro e6 w6 ⟨rfl, b6⟩))
            have HB6 := hd (HB5.out.trans (b6.mono HB5.out.size))
            have hn7 := rpnew_no (n := n) (room := room) (w := w6) hmp
            clear hn6 b6
            go_wp2_with (first | (go_at_call 13; refine hn7.mono ?_; rintro e7 w7 ⟨rfl, b7⟩))
            go_ret
            exact ⟨rfl, HB6.out.trans (b7.mono HB6.out.size)⟩
          | true =>
            go_upto_region 10 with (first | (go_at_call 8; refine hly1.mono ?_; rintro e2 w2 ⟨rfl, b2⟩))
            have HB2 := hd (HO.out.bel.trans (b2.mono HO.out.bel.size))
            have HR2 := hd b2
            have hly2 := rplay_err (room := room) (cursor := cursor) (er := er) (c := c) (HA.out.below HB2.out) HFT.out HER.out
            rw [hnn.out] at hly2
            clear hly1 b2
            go_upto_region 11 with (first | (go_at_call 9; refine hly2.mono ?_; rintro e3 w3 ⟨rfl, b3⟩))
            have HB3 := hd (HB2.out.trans (b3.mono HB2.out.size))
            have HR3 := hd (HR2.out.trans (b3.mono HR2.out.size))
            have hsm := psame_any (c := cx) (e := c) (HO.out.als.below HR3.out) (HA.out.below HB3.out) HEQ.out (by have := HLEN.out; omega) HLT.out
            rw [HLEN.out, hnn.out] at hsm
            clear hly2 b3
            go_upto_region 12 with (first | (go_at_call 10; refine hsm.mono ?_; rintro e4 w4 ⟨rfl, b4⟩))
            have HB4 := hd (HB3.out.trans (b4.mono HB3.out.size))
            have HR4 := hd (HR3.out.trans (b4.mono HR3.out.size))
            have hsp := HSP.out w4 HR4.out
            clear hsm b4
            go_upto_region 13 with (first | (go_at_call 11; refine hsp.mono ?_; rintro e5 w5 ⟨rfl, M5⟩))
            have HB5 : Hid (Below w.heap.size w w5) := hd (HB4.out.trans (M5.below HB4.out.size (fun k _ hk => (HLB.out k hk).1)))
            clear M5 hsp
            obtain ⟨RR, rfl⟩ : ∃ RR : Nat, room = (RR : Int) := ⟨room.toNat, by have := mayP_yes hmp; omega⟩
            have hmy := mayP_yes hmp
            have hn6 := pnew_ok (n := n) (room := RR) (w := w5) (by omega) (by omega) (by omega) (by omega)
            go_upto_region 16 with (first | (go_at_call 12; refine hn6.mono ?_; rintro e6 w6 hq6; obtain ⟨bn, Fn, rfl, -, -, b6⟩ := hq6))
            have HB6 := hd (HB5.out.trans (b6.mono HB5.out.size))
            have hn7 := rpnew_ok (n := n) (room := RR) (w := w6) (by omega) (by omega) (by omega) (by omega)
            clear hn6 b6
            go_wp2_with (first | (go_at_call 13; refine hn7.mono ?_; rintro e7 w7 hq7; obtain ⟨bm, Fm, rfl, -, -, b7⟩ := hq7))
            go_ret
            exact ⟨rfl, HB6.out.trans (b7.mono HB6.out.size)⟩
        · have HMY := hd hMy
          have hrm := hMy.room
          subst hrm
          have hr1 := hMy.r1
          have hr2 := hMy.r2
          have hn1 : 1 ≤ n := by have := hMy.n1; have := hnn.out; omega
          have hn9 : n ≤ 9 := by have := hMy.n2; have := hnn.out; omega
          have hly1 := play_may (room := (R : Int)) (cursor := cursor) (c := cx) HO.out.als HFO.out (HEQ.out.may hMy)
          rw [HLEN.out, HEQ.out.ls R] at hly1
          have HGD := hd (hMy.good HFT.out)
          have HRM : Hid (RoomP (l.map (·.ls R)) R) := hd LayMay.rooms
          have HTW : Hid (totW (l.map (·.ls R)) ≤ 40000) := hd (by
            have := tot_ls (l := l) (R := R) (N := 4096) (fun t ht => (HVL.out t ht).2)
            have h2 : l.length * 4096 ≤ 9 * 4096 := Nat.mul_le_mul_right _ (by rw [hnn.out]; exact hn9)
            omega)
          clear hMy
          go_upto_region 10 with (first | (go_at_call 8; refine hly1.mono ?_; rintro e2 w2 hq; obtain ⟨bl, Fl, rfl, PL, NL, b2⟩ := hq))
          have HB2 := hd (HO.out.bel.trans (b2.mono HO.out.bel.size))
          have HR2 := hd b2
          have HPL := hd PL
          have HNL := hd NL
          have hly2 := rplay_may (room := (R : Int)) (cursor := cursor) (c := c) (HA.out.below HB2.out) HFT.out HMY.out
          rw [hnn.out] at hly2
          clear hly1 b2 PL NL
          go_upto_region 11 with (first | (go_at_call 9; refine hly2.mono ?_; rintro e3 w3 hq; obtain ⟨br, Fr, rfl, PR, NR, b3⟩ := hq))
          have HB3 := hd (HB2.out.trans (b3.mono HB2.out.size))
          have HR3 := hd (HR2.out.trans (b3.mono HR2.out.size))
          have HPP3 : Hid (PPair w.heap.size w w3 bl br (l.map (·.ls R)) cur (l.map (·.ls R)) cur Fl Fr) := hd (by
            have h1 := HO.out.bel.size
            have h2 := HR2.out.size
            exact ⟨HPL.out.below b3, PR, fun k hk hf => by have := HPL.out.lt k hk; have := NR k hf; omega, fun k hk => Nat.le_trans h1 (HNL.out k hk), fun k hk => by have := NR k hk; omega, HB3.out, HB3.out.size⟩)
          have HFF : Hid (∀ k, k < wr.heap.size → ¬ Fl k ∧ ¬ Fr k) := hd (fun k hk => ⟨fun hf => by have := HNL.out k hf; omega, fun hf => by have := NR k hf; have := HR2.out.size; omega⟩)
          have hsm := psame_any (c := cx) (e := c) (HO.out.als.below HR3.out) (HA.out.below HB3.out) HEQ.out (by have := HLEN.out; omega) HLT.out
          rw [HLEN.out, hnn.out] at hsm
          clear hly2 b3 PR NR HPL HNL HB2 HR2
          go_upto_region 12 with (first | (go_at_call 10; refine hsm.mono ?_; rintro e4 w4 ⟨rfl, b4⟩))
          have HPP4 := hd (HPP3.out.after b4)
          have HR4 := hd (HR3.out.trans (b4.mono HR3.out.size))
          have hsp := HSP.out w4 HR4.out
          clear hsm b4 HPP3 HB3 HR3
          go_upto_region 13 with (first | (go_at_call 11; refine hsp.mono ?_; rintro e5 w5 ⟨rfl, M5⟩))
          have HPP5 := hd (HPP4.out.mod M5 (fun k hk => (HFF.out k (HLB.out k hk).2).1) (fun k hk => (HFF.out k (HLB.out k hk).2).2) (fun k hk => (HLB.out k hk).1))
          have hn6 := pnew_ok (n := n) (room := R) (w := w5) hn1 hn9 hr1 hr2
          clear M5 hsp HPP4 HR4
          go_upto_region 16 with (first | (go_at_call 12; refine hn6.mono ?_; rintro e6 w6 hq6; obtain ⟨bn, Fn, rfl, -, -, b6⟩ := hq6))
          have HPP6 := hd (HPP5.out.after b6)
          have hn7 := rpnew_ok (n := n) (room := R) (w := w6) hn1 hn9 hr1 hr2
          clear hn6 b6 HPP5
          go_upto_region 21 with (first | (go_at_call 13; refine hn7.mono ?_; rintro e7 w7 hq7; obtain ⟨bm, Fm, rfl, -, -, b7⟩ := hq7))
          have HPP7 := hd (HPP6.out.after b7)
          clear hn7 b7 HPP6 HO HV HLEN HFO HLT HLB HSP HEQ HMY HFF HA HVL HFT HH
          obtain ⟨s0, hs0⟩ : ∃ s0, Hid (l.map (·.ls R) = s0) := ⟨_, rfl⟩
          rw [hs0.out] at HPP7 HGD HRM HTW
          go_wp2_with fail
          go_loopg [12, 21] M (fun k v12 v21 wr => ∃ (i b : Nat), v21 = .int .i64 (i : Int) ∧ v12 = .pointer (some ⟨b, 0, none⟩) ∧ i + k = M ∧ Hid (∃ ss cu Fl Fr, PPair w.heap.size w wr b br ss cu ss cu Fl Fr ∧ GoodP ss cu ∧ RoomP ss R ∧ totW ss ≤ 40000 + i))
          case atStart => exact ⟨0, bl, rfl, rfl, by omega, hd ⟨s0, cur, Fl, Fr, HPP7.out, HGD.out, HRM.out, by have := HTW.out; omega⟩⟩
          case round =>
            obtain ⟨i, b, rfl, rfl, hik, HH⟩ := hrel
            clear HPP7 HGD HRM HTW
            obtain ⟨ss, cu, Fl, Fr, hPP, hGD, hRM, hTW⟩ := HH.out
            have HPP := hd hPP
            have HGD := hd hGD
            have HRM := hd hRM
            have HTW := hd hTW
            clear hPP hGD hRM hTW HH
            by_cases hlt : i < M
            · have hlt' : (i : Int) < (M : Int) := by omega
              obtain ⟨bs, os, rfl, c0, c1, c2, c3'⟩ := rd_s (HS.out.below HPP.out.bel) i (by rw [hM.out]; exact hlt)
              obtain ⟨⟨kk, ln, pp, vv⟩, hx⟩ : ∃ x, Hid (sc.getD i (0, 0, 0, 0) = x) := ⟨_, rfl⟩
              rw [hx.out] at c0 c1 c2 c3'
              simp only at c0 c1 c2 c3'
              have HFP : Hid (Fit64 pp) := hd (by
                have h1 := HFZ.out (sc.getD i (0, 0, 0, 0)) (by rw [List.getD_eq_getElem?_getD, List.getElem?_eq_getElem (by rw [hM.out]; exact hlt)]; exact List.getElem_mem _)
                rwa [hx.out] at h1)
              have HSC : Hid (∀ W, Below w.heap.size w W → W.cell? ⟨bs, os + i * 4, none⟩ = some (.int .i64 kk) ∧ W.cell? ⟨bs, os + i * 4 + 1, none⟩ = some (.int .i64 ln) ∧ W.cell? ⟨bs, os + i * 4 + 2, none⟩ = some (.int .i64 pp) ∧ W.cell? ⟨bs, os + i * 4 + 3, none⟩ = some (.int .i64 vv)) := hd (fun W hb => by
                obtain ⟨b', o', e, d0, d1, d2, d3⟩ := rd_s (HS.out.below hb) i (by rw [hM.out]; exact hlt)
                cases e
                rw [hx.out] at d0 d1 d2 d3
                exact ⟨d0, d1, d2, d3⟩)
              -- a step, and how they stand behind it
              have HST : Hid (∀ (W : World) (b : Nat) (Fl Fr : Nat → Prop), PPair w.heap.size w W b br ss cu ss cu Fl Fr → Calls Try.prog 15 #[.pointer (some ⟨b, 0, none⟩), .pointer (some ⟨br, 0, none⟩), .agg #[.int .i64 kk, .int .i64 ln, .int .i64 pp, .int .i64 vv]] W (StepP w.heap.size w b br (stepS ss cu kk ln pp vv).1 (stepS ss cu kk ln pp vv).2)) := hd (fun W b Fl Fr h => pstep_any h HGD.out (by have := HTW.out; omega) kk ln pp vv)
              have HSD : Hid (∀ (W : World) (b : Nat) (Fl Fr : Nat → Prop), PPair w.heap.size w W b br (stepS ss cu kk ln pp vv).1 (stepS ss cu kk ln pp vv).2 (stepS ss cu kk ln pp vv).1 (stepS ss cu kk ln pp vv).2 Fl Fr → Calls Try.prog 16 #[.pointer (some ⟨b, 0, none⟩), .pointer (some ⟨br, 0, none⟩)] W fun e w' => e = .returned (.bool true) ∧ PPair w.heap.size w w' b br (stepS ss cu kk ln pp vv).1 (stepS ss cu kk ln pp vv).2 (stepS ss cu kk ln pp vv).1 (stepS ss cu kk ln pp vv).2 Fl Fr) := hd (fun W b Fl Fr h => pstands_any h (HGD.out.step kk ln HFP.out vv) (by have := tot_step ss cu kk ln pp vv; have := HTW.out; omega))
              have HNX : Hid (∀ (W : World) (b : Nat) (Fl Fr : Nat → Prop), PPair w.heap.size w W b br (stepS ss cu kk ln pp vv).1 (stepS ss cu kk ln pp vv).2 (stepS ss cu kk ln pp vv).1 (stepS ss cu kk ln pp vv).2 Fl Fr → ∃ ss cu Fl Fr, PPair w.heap.size w W b br ss cu ss cu Fl Fr ∧ GoodP ss cu ∧ RoomP ss R ∧ totW ss ≤ 40000 + (i + 1)) := hd (fun W b Fl Fr h => ⟨_, _, Fl, Fr, h, HGD.out.step kk ln HFP.out vv, HRM.out.step cu kk ln pp vv, by have := tot_step ss cu kk ln pp vv; have := HTW.out; omega⟩)
              obtain ⟨S', hS'⟩ : ∃ S', Hid (stepS ss cu kk ln pp vv = S') := ⟨_, rfl⟩
              rw [hS'.out] at HST HSD HNX
              by_cases hk7 : kk = 7
              · have hk7' : (kk == 7) = true := by simp [hk7]
                have hst := pstate_any HPP.out.l HGD.out (by have := HTW.out; omega)
                obtain ⟨m, hm⟩ : ∃ m, Hid (ss.length = m) := ⟨_, rfl⟩
                rw [hm.out] at hst
                clear hk7
                go_upto_region 26 with (first | (go_at_call 14; refine hst.mono ?_; rintro e8 w8 ⟨at8, ct8, lt8, rfl, O8, T8⟩))
                have hly8 := play_may (room := (R : Int)) (cursor := (cu : Int)) (c := ct8) O8.als (T8.fit HGD.out (by have := HTW.out; omega)) (T8.may HGD.out HRM.out)
                rw [T8.ls HRM.out, T8.1, hm.out] at hly8
                have HO8 := hd O8.bel
                clear O8 T8 hst c0 c1 c2 c3'
                go_upto_region 30 with (first | (go_at_call 8; refine hly8.mono ?_; rintro e9 w9 hq9; obtain ⟨b9, F9, rfl, P9, N9, d9⟩ := hq9))
                have HPN := hd (HPP.out.relay HO8.out P9 N9 d9)
                obtain ⟨c0, c1, c2, c3'⟩ := HSC.out w9 HPN.out.bel
                have hsx := HST.out w9 b9 F9 Fr HPN.out
                clear hly8 P9 N9 d9
                go_upto_region 31 with (first | (go_at_call 15; refine hsx.mono ?_; rintro e10 w10 ⟨rfl, F10, G10, P10⟩))
                have hsd := HSD.out w10 b9 F10 G10 P10
                clear hsx c0 c1 c2 c3'
                go_wp2_with (first | (go_at_call 16; refine hsd.mono ?_; rintro e11 w11 ⟨rfl, P11⟩))
                go_roundg (gk - 1)
                case measure => omega
                case rel => exact ⟨i + 1, b9, by go_num, rfl, by omega, hd (HNX.out w11 b9 F10 G10 P11)⟩
              · have hk7' : (kk == 7) = false := by simp [hk7]
                have hsx := HST.out wr b Fl Fr HPP.out
                clear hk7
                go_upto_region 31 with (first | (go_at_call 15; refine hsx.mono ?_; rintro e10 w10 ⟨rfl, F10, G10, P10⟩))
                have hsd := HSD.out w10 b F10 G10 P10
                clear hsx c0 c1 c2 c3'
                go_wp2_with (first | (go_at_call 16; refine hsd.mono ?_; rintro e11 w11 ⟨rfl, P11⟩))
                go_roundg (gk - 1)
                case measure => omega
                case rel => exact ⟨i + 1, b, by go_num, rfl, by omega, hd (HNX.out w11 b F10 G10 P11)⟩
            · have hltd : decide ((i : Int) < (M : Int)) = false := by simp; omega
              have hle : (M : Int) ≤ (i : Int) := by omega
              have hsd := pstands_any HPP.out HGD.out (by have := HTW.out; omega)
              go_wp2_with (first | (go_at_call 16; refine hsd.mono ?_; rintro e11 w11 ⟨rfl, P11⟩))
              go_ret
              exact ⟨rfl, P11.bel⟩
end Go.Proofs.Ytknklbojcnhjcaa
