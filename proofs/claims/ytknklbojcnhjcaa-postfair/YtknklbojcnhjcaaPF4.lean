/- PostFair's walk. -/
import Derived.Test.YtknklbojcnhjcaaPF3
namespace Go.Proofs.Ytknklbojcnhjcaa
open Go.RowKit

/-- The copy of the messages alone. -/
def OwnV (l lo : List TLn) : Prop := ∀ j, j < lo.length → (tAt lo j).vs = (tAt l j).vs ∧ (tAt lo j).ws = [] ∧ (tAt lo j).tk = 0 ∧ (tAt lo j).dr = 0

theorem fair_start {l lo : List TLn} {R cur q : Nat} {room cursor : Int} (h : LayMay room lo cursor R cur) (ho : OwnV l lo) (hq : q < lo.length) : FairS lo.length (lo.map (·.ls R)) cur q (tAt l q).vs := by
  have key : ∀ i, i < lo.length → lnOf (lo.map (·.ls R)) i = (tAt lo i).ls R := fun i hi => by
    unfold lnOf tAt
    rw [List.getD_eq_getElem?_getD, List.getD_eq_getElem?_getD, List.getElem?_map, List.getElem?_eq_getElem hi]
    rfl
  refine ⟨by simp, ⟨by simpa using h.n1, by simpa using h.n2, by simpa using h.cu, fun s hs => ?_⟩, fun s hs => ?_, hq, ?_⟩
  · obtain ⟨t, ht, rfl⟩ := List.mem_map.1 hs
    obtain ⟨i, hi, rfl⟩ := tAt_of_mem ht
    exact ⟨h.r1, h.r2, h.may _ ht, fun x hx => by simp only [TLn.ls] at hx; rw [(ho i hi).2.1] at hx; cases hx⟩
  · obtain ⟨t, ht, rfl⟩ := List.mem_map.1 hs
    obtain ⟨i, hi, rfl⟩ := tAt_of_mem ht
    exact (ho i hi).2.1
  · rw [key q hq]
    exact (ho q hq).1

set_option maxRecDepth 100000 in
set_option maxHeartbeats 8000000 in
theorem fair_short {room cursor which : Int} {a am : Option Addr} {c cm : Nat} {l : List TLn} {more : List Int} {w : World} (hA : ALs w a l) (hR : Rd w am (iC more)) (hml : more.length ≤ 100000000000000) (hlg : ¬ longT l) :
    Calls Try.prog 4 #[.int .i64 room, .slice a l.length c, .int .i64 cursor, .int .i64 which, .slice am more.length cm] w fun e w' => e = .returned (.bool true) ∧ Below w.heap.size w w' := by
  have hl : l.length ≤ 1048576 := by
    rcases Nat.lt_or_ge 1048576 l.length with h | h
    · exact absurd (.inr h) hlg
    · exact h
  have hvl : ∀ t ∈ l, t.vs.length ≤ 1048576 := fun t ht => by
    rcases Nat.lt_or_ge 1048576 t.vs.length with h | h
    · exact absurd (.inl ⟨t, ht, .inl h⟩) hlg
    · exact h
  have hf := fixed_any w
  have hlo := fun (W : World) (hb : Below w.heap.size w W) => long_any (c := c) (hA.below hb).rd (by omega) false (by simp [hlg])
  have HA := hd hA
  have HR := hd hR
  have HVL := hd hvl
  obtain ⟨n, hnn⟩ : ∃ n, Hid (l.length = n) := ⟨_, rfl⟩
  obtain ⟨M, hM⟩ : ∃ M, Hid (more.length = M) := ⟨_, rfl⟩
  rw [hnn.out] at hlo hl ⊢
  rw [hM.out] at hml ⊢
  clear hA hlg hR hvl
  go_enter Try.func4, Try.ntmps4
  go_upto_region 4 with (first | (go_at_call 5; refine hf.mono ?_; rintro e1 w1 ⟨rfl, b1⟩; have hlo1 := hlo w1 b1) | (go_at_call 6; refine hlo1.mono ?_; rintro e2 w1 ⟨rfl, rfl⟩))
  have HT0 : Hid (TlOut w (w1.alloc (.cells #[] 29)) (some ⟨w1.heap.size, 0, none⟩) 0 []) := hd (by
    have h1 := TlOut.new w1
    exact ⟨h1.row, TlAt.nil _ _, fun k hk => ⟨Nat.le_trans b1.size (h1.ge k hk).1, fun i hi => by simp at hi⟩, b1.trans (h1.bel.mono b1.size)⟩)
  clear hf hlo hlo1 b1
  go_wp2_with fail
  go_loopg [12, 13] (min n 20) (fun k v12 v13 wr => ∃ (i : Nat) (ax : Option Addr) (cx : Nat), v13 = .int .i64 (i : Int) ∧ v12 = .slice ax i cx ∧ i + k = min n 20 ∧ Hid (∃ lo, lo.length = i ∧ TlOut w wr ax cx lo ∧ OwnV l lo))
  case atStart => exact ⟨0, _, 0, rfl, rfl, by omega, hd ⟨[], rfl, HT0.out, fun j hj => by simp at hj⟩⟩
  case round =>
    obtain ⟨i, ax, cx, rfl, rfl, hik, HH⟩ := hrel
    clear HT0
    by_cases hlt : i < min n 20
    · have hin : i < n := by omega
      have hi20 : i < 20 := by omega
      have hin' : (i : Int) < (n : Int) := by omega
      have hi20' : (i : Int) < 20 := by omega
      have hil : i < l.length := by rw [hnn.out]; exact hin
      obtain ⟨lo, hlen, hO, hV⟩ := HH.out
      obtain ⟨ba, oa, rfl, c0, -, -, -⟩ := (HA.out.below hO.bel).at i hil
      obtain ⟨a1, c1, w2, hap, R2, B2, N2⟩ := clone_i (w := wr) (c := (tAt l i).c1) ((HA.out.below hO.bel).el _ (tAt_mem hil)).r1 (by have := HVL.out _ (tAt_mem hil); omega)
      have hR2 := hO.row.below B2
      rw [hlen] at hR2
      obtain ⟨a2, c2, w3, hap2, R3, M3, B3⟩ := push_any (us := [.slice a1 (tAt l i).vs.length c1, .slice none 0 0, .int .i64 0, .int .i64 0]) Try.underlying22 infoA rfl (by decide) hR2 (by omega) rfl (fun u hu => by simp at hu; rcases hu with rfl | rfl | rfl <;> rfl)
      have HN : Hid (∃ lo, lo.length = i + 1 ∧ TlOut w w3 a2 c2 lo ∧ OwnV l lo) := hd (by
        have ho : OwnAL wr w2 (tAt l i).vs [] a1 c1 none 0 := ⟨R2, by simpa [wC] using Row.nil, N2, fun k hk => (by cases hk), fun k hk => (by cases hk), B2⟩
        have hp := hO.push ho 0 0 (by rw [hlen]; exact R3) M3 B3
        refine ⟨_, by simp [hlen], hp, fun j hj => ?_⟩
        rw [List.length_append] at hj
        simp only [List.length_singleton] at hj
        by_cases e : j = lo.length
        · subst e
          rw [tAt_app_eq, hlen]
          exact ⟨rfl, rfl, rfl, rfl⟩
        · rw [tAt_app_lt (by omega)]
          exact hV j (by omega))
      obtain ⟨t, ht⟩ : ∃ t, Hid (tAt l i = t) := ⟨_, rfl⟩
      rw [ht.out] at c0 hap hap2
      obtain ⟨vn, hvn⟩ : ∃ vn, Hid (t.vs.length = vn) := ⟨_, rfl⟩
      rw [hvn.out] at c0 hap hap2
      have c0a := ((below_al wr (.cells #[] 2)).cell (p := ⟨ba, oa + i * 4, none⟩) (World.block_lt_of_cell? wr _ c0)).trans c0
      replace hap := hd hap
      replace hap2 := hd hap2
      clear R2 B2 N2 hR2 R3 M3 B3 hO hV hil
      go_wp2_with (first | (at_builtin; first | (refine wpList_append_run rfl _ _ _ rfl _ _ _ _ rfl rfl hap.out ?_; clear hap) | (refine wpList_append_run rfl _ _ _ rfl _ _ _ _ rfl rfl hap2.out ?_; clear hap2)))
      go_roundg (gk - 1)
      case measure => omega
      case rel => exact ⟨i + 1, a2, c2, by go_num, rfl, by omega, HN⟩
    · obtain ⟨lo, hlen, hO, hV⟩ := HH.out
      have HLAY := play_all (room := room) (cursor := cursor) (c := cx) hO.als (fun t ht => by
        obtain ⟨j, hj, rfl⟩ := tAt_of_mem ht
        rw [(hV j hj).2.1]
        exact ⟨by simp, by simp⟩)
      rw [hlen] at HLAY
      have HO := hd hO
      have HV := hd hV
      have HLEN := hd hlen
      clear hO hV hlen
      by_cases h20 : 20 < n
      · obtain rfl : i = 20 := by omega
        have hin' : ((20 : Nat) : Int) < (n : Int) := by omega
        have hin2 : (20 : Int) < (n : Int) := by omega
        have hly : Calls Try.prog 8 #[.int .i64 room, .slice ax 20 cx, .int .i64 cursor] wr fun e w' => ∃ er, e = .returned (.tuple #[.pointer none, .int .i64 er]) ∧ (er == 0) = false ∧ Hid (er ≠ 0) ∧ Below wr.heap.size wr w' := HLAY.mono (fun e w' h => by
          rcases h with ⟨er, h1, h2, h3⟩ | ⟨R, cur, h1, _⟩
          · exact ⟨er, h2, by have := h1.ne; simpa using this, hd h1.ne, h3⟩
          · have := h1.n2; have := HLEN.out; omega)
        clear HLAY
        go_wp2_with (first | (go_at_call 8; refine hly.mono ?_; rintro e2 w2 ⟨er, rfl, her, HER, b2⟩))
        go_ret
        exact ⟨by first | rfl | (simp; exact HER.out), HO.out.bel.trans (b2.mono HO.out.bel.size)⟩
      · obtain rfl : i = n := by omega
        have hltd : decide ((i : Int) < (i : Int)) = false := by simp
        clear hltd
        go_upto_region 9 with fail
        go_wp2_with fail
        refine HLAY.mono ?_
        rintro e2 w2 (⟨er, h1, rfl, b2⟩ | ⟨R, cur, hmay, hmade⟩)
        · have her : (er == 0) = false := by have := h1.ne; simpa using this
          have HER := hd h1.ne
          clear h1
          go_wp2_with fail
          go_ret
          exact ⟨by first | rfl | (simp; exact HER.out), HO.out.bel.trans (b2.mono HO.out.bel.size)⟩
        · obtain ⟨b, rfl, hlv⟩ := hmade.liv HO.out.bel HO.out.bel.size
          have hn1 : 1 ≤ i := by have := hmay.n1; have := HLEN.out; omega
          have hn9 : i ≤ 9 := by have := hmay.n2; have := HLEN.out; omega
          have HMAY := hd hmay
          have HLV := hd hlv
          clear hmade hmay hlv HLAY
          obtain ⟨q, hq, hz⟩ := rem_at which (n := i) (by omega)
          have hi0 : (i : Int) ≠ 0 := by omega
          go_upto_if 84 with fail
          go_cut [3] (fun v3 wy => v3 = .int .i64 (q : Int) ∧ wy = w2)
          case first =>
            rcases hz with ⟨hz1, hz2⟩ | ⟨hz1, hz2⟩
            · have hz3 : decide (which.tmod (i : Int) < 0) = false := by simp; omega
              rw [hz3]
              go_wp2_with fail
              go_meet
              case rel => exact ⟨by first | rfl | rw [hz2], rfl⟩
            · have hz3 : decide (which.tmod (i : Int) < 0) = true := by simp; omega
              rw [hz3]
              have hzb : -10 < which.tmod (i : Int) := by omega
              go_wp2_with fail
              go_meet
              case rel => exact ⟨by first | rfl | rw [hz2], rfl⟩
          case rest =>
            obtain ⟨rfl, hwc⟩ := hcut
            obtain rfl : w2 = wc := hwc.symm
            clear hz
            have hql : q < l.length := by rw [hnn.out]; exact hq
            have HB2 := hd HLV.out.below
            obtain ⟨ba, oa, rfl, c0, -, -, -⟩ := (HA.out.below HB2.out).at q hql
            obtain ⟨a1, c1, w3, hap, R3, B3, N3⟩ := clone_i (w := w2) (c := (tAt l q).c1) ((HA.out.below HB2.out).el _ (tAt_mem hql)).r1 (by have := HVL.out _ (tAt_mem hql); omega)
            have c0a := ((below_al w2 (.cells #[] 2)).cell (p := ⟨ba, oa + q * 4, none⟩) (World.block_lt_of_cell? w2 _ c0)).trans c0
            have HFS := hd (fair_start (l := l) HMAY.out HV.out (by rw [HLEN.out]; exact hq))
            rw [HLEN.out] at HFS
            have hs64 : (tAt l q).vs.length ≤ 64 := by
              have h1 := HMAY.out.may _ (tAt_mem (l := lo) (i := q) (by rw [HLEN.out]; exact hq))
              have h2 := h1.1
              rw [(HV.out q (by rw [HLEN.out]; exact hq)).1] at h2
              have := HMAY.out.r2
              omega
            obtain ⟨t, ht⟩ : ∃ t, Hid (tAt l q = t) := ⟨_, rfl⟩
            rw [ht.out] at c0 c0a hap R3 hs64 HFS
            obtain ⟨sv, hsv⟩ : ∃ sv, Hid (t.vs = sv) := ⟨_, rfl⟩
            rw [hsv.out] at c0 c0a hap R3 hs64 HFS
            obtain ⟨sl, hsl⟩ : ∃ sl, Hid (sv.length = sl) := ⟨_, rfl⟩
            rw [hsl.out] at c0 c0a hap R3 hs64
            have HZ : Hid (LivZ w.heap.size w w3 b (lo.map (·.ls R)) cur (fun k => blk a1 = some k) w3) := hd (HLV.out.z B3 (fun k hk => ⟨N3 k hk, R3.lt k hk⟩))
            have HR3 := hd R3
            obtain ⟨TT, hTT⟩ : ∃ TT, Hid ((sl + 1) * i = TT) := ⟨_, rfl⟩
            obtain ⟨sL, hsL⟩ : ∃ sL : List LS, Hid (lo.map (·.ls R) = sL) := ⟨_, rfl⟩
            rw [hsL.out] at HZ HFS
            have HD0 : Hid (dst i cur q < i) := hd (dst_lt (by omega))
            replace hap := hd hap
            clear R3 B3 N3 hql HLV HO HV HLEN HMAY hsL HVL HA HH
            go_wp2_with (first | (at_builtin; refine wpList_append_run rfl _ _ _ rfl _ _ _ _ rfl rfl hap.out ?_; clear hap))
            go_loopg [18, 19] TT (fun k v18 v19 wr => ∃ got tt : Nat, v18 = .int .i64 (got : Int) ∧ v19 = .int .i64 (tt : Int) ∧ tt + k = TT ∧ got ≤ sl ∧ Hid (∃ ss cur, LivZ w.heap.size w wr b ss cur (fun k => blk a1 = some k) w3 ∧ FairS i ss cur q (sv.drop got) ∧ tt + dst i cur q < (got + 1) * i))
            case atStart => exact ⟨0, 0, rfl, rfl, by omega, by omega, hd ⟨sL, cur, HZ.out, by simpa using HFS.out, by have := HD0.out; omega⟩⟩
            case round =>
              obtain ⟨got, tt, rfl, rfl, hTk, hgl, HH⟩ := hrel
              clear HZ HFS HD0 c0 c0a
              by_cases hgot : got < sl
              · have hgot' : (got : Int) < (sl : Int) := by omega
                obtain ⟨P, hP⟩ : ∃ P, Hid ((got + 1) * i = P) := ⟨_, rfl⟩
                have hPi : ((got : Int) + 1) * (i : Int) = (P : Int) := by rw [← hP.out]; simp
                have hP600 : P ≤ 600 := by
                  rw [← hP.out]
                  have : (got + 1) * i ≤ 64 * 9 := Nat.mul_le_mul (by omega) hn9
                  omega
                have hPT : P ≤ TT := by
                  rw [← hP.out, ← hTT.out]
                  exact Nat.mul_le_mul_right _ (by omega)
                rw [hP.out] at HH
                have htP : tt < P := by obtain ⟨ss, cur, _, _, h⟩ := HH.out; omega
                have htP' : decide ((P : Int) ≤ (tt : Int)) = false := by simp; omega
                have htP2 : decide (P ≤ tt) = false := by simp; omega
                have htP3 : (tt : Int) < (P : Int) := by omega
                go_wp2_with fail
                go_loopg [20, 21] i (fun k v20 v21 wr => ∃ j : Nat, v20 = .int .i64 (j : Int) ∧ j + k = i ∧ Hid (∃ ss cur, LivZ w.heap.size w wr b ss cur (fun k => blk a1 = some k) w3 ∧ FairS i ss cur q (sv.drop got) ∧ tt + dst i cur q < P))
                case atStart => exact ⟨0, rfl, by omega, HH⟩
                case round =>
                  obtain ⟨j, rfl, hjk, HJ⟩ := hrel
                  clear HH
                  by_cases hj : j < i ∧ 0 < M
                  · obtain ⟨hj1, hj2⟩ := hj
                    have hj1' : (j : Int) < (i : Int) := by omega
                    have hj2' : (0 : Int) < (M : Int) := by omega
                    have hM0 : (M : Int) ≠ 0 := by omega
                    obtain ⟨ss, cu, hlv, hfs, hdd⟩ := HJ.out
                    obtain ⟨r, hr⟩ : ∃ r, Hid ((tt + j) % M = r) := ⟨_, rfl⟩
                    have hrM : r < M := by rw [← hr.out]; exact Nat.mod_lt _ hj2
                    have hrt : ((tt : Int) + (j : Int)).tmod (M : Int) = (r : Int) := by
                      rw [← hr.out, ← nat_tmod]
                      simp
                    have hrM' : (r : Int) < (M : Int) := by omega
                    obtain ⟨bm, om, rfl, cz⟩ := rd_i (HR.out.below hlv.below) r (by rw [hM.out]; exact hrM)
                    obtain ⟨z, hz⟩ : ∃ z, Hid (more.getD r 0 = z) := ⟨_, rfl⟩
                    rw [hz.out] at cz
                    obtain ⟨y, hy⟩ : ∃ y, Hid (z.tmod (i : Int) = y) := ⟨_, rfl⟩
                    have hyt : z.tmod (i : Int) = y := hy.out
                    have hyb : -10 < y ∧ y < 10 := by
                      obtain ⟨k1, hk1, hk2⟩ := rem_at z (n := i) (by omega)
                      rw [hyt] at hk2
                      omega
                    obtain ⟨hyb1, hyb2⟩ := hyb
                    have HD := hd hdd
                    have HF := hd hfs
                    have HL := hd hlv
                    by_cases hput : 0 ≤ y ∧ y ≠ (q : Int)
                    · obtain ⟨hp1, hp2⟩ := hput
                      have hp2' : (y == (q : Int)) = false := by simpa using hp2
                      have hpu := put_livz hlv hfs.good y 99
                      have HF2 := hd (hfs.put hp2 99)
                      obtain ⟨rp, hrp⟩ : ∃ rp, Hid (putP ss y 99 = rp) := ⟨_, rfl⟩
                      rw [hrp.out] at hpu HF2
                      clear hlv hfs hdd hp2
                      go_wp2_with (first | (go_at_call 17; refine hpu.mono ?_; rintro e4 w4 ⟨rfl, L4⟩))
                      go_roundg (gk - 1)
                      case measure => omega
                      case rel => exact ⟨j + 1, by go_num, by omega, hd ⟨_, _, L4, HF2.out, HD.out⟩⟩
                    · have hnp : y < 0 ∨ y = (q : Int) := by omega
                      clear hlv hfs hdd hput
                      rcases hnp with hnp | hnp
                      · have hnp' : decide (0 ≤ y) = false := by simp; omega
                        go_wp2_with fail
                        go_roundg (gk - 1)
                        case measure => omega
                        case rel => exact ⟨j + 1, by go_num, by omega, hd ⟨_, _, HL.out, HF.out, HD.out⟩⟩
                      · have hnp' : (y == (q : Int)) = true := by simpa using hnp
                        have hnp0 : 0 ≤ y := by omega
                        clear hnp
                        go_wp2_with fail
                        go_roundg (gk - 1)
                        case measure => omega
                        case rel => exact ⟨j + 1, by go_num, by omega, hd ⟨_, _, HL.out, HF.out, HD.out⟩⟩
                  · have hjx : decide ((j : Int) < (i : Int)) = false ∨ ((j : Int) < (i : Int) ∧ decide ((0 : Int) < (M : Int)) = false ∧ decide (0 < M) = false) := by
                      by_cases h : j < i
                      · right; exact ⟨by omega, by simp; omega, by simp; omega⟩
                      · left; simp; omega
                    obtain ⟨ss, cu, hlv, hfs, hdd⟩ := HJ.out
                    clear HJ hj
                    obtain ⟨v, r, hvr⟩ : ∃ v r, Hid (sv.drop got = v :: r) := by
                      cases hc : sv.drop got with
                      | nil => have := List.drop_eq_nil_iff.1 hc; have := hsl.out; omega
                      | cons v r => exact ⟨v, r, rfl⟩
                    rw [hvr.out] at hfs
                    have hgv : Hid (sv.getD got 0 = v ∧ sv.drop (got + 1) = r) := hd (by
                      have h1 := hvr.out
                      rw [List.drop_eq_getElem_cons (by have := hsl.out; omega)] at h1
                      cases h1
                      exact ⟨by rw [List.getD_eq_getElem?_getD, List.getElem?_eq_getElem (by have := hsl.out; omega)]; rfl, rfl⟩)
                    obtain ⟨x, v', ss', cu', hte, hx, hcase⟩ := hfs.take
                    have htk := take_livz hlv hfs.good (hfs.few _)
                    rw [hte] at htk
                    unfold ptkV at htk
                    simp only at htk
                    have hcd : cu' < i ∨ True := .inr trivial
                    have HDD := hd hdd
                    have hzk : Hid (∀ w5, LivZ w.heap.size w w5 b ss' cu' (fun k => blk a1 = some k) w3 → ∃ g, a1 = some ⟨g, 0, none⟩ ∧ w5.cell? ⟨g, got, none⟩ = some (.int .i64 v)) := hd (fun w5 h5 => by
                      have h6 := HR3.out.kept h5.kept
                      obtain ⟨g, e, h7⟩ := h6.cell got (by omega)
                      refine ⟨g, e, ?_⟩
                      rw [h7, iC_at sv got (by rw [hsl.out]; exact hgot), hgv.out.1])
                    have HRS : Hid ((x = q ∧ v' = v ∧ FairS i ss' cu' q r) ∨ (x ≠ q ∧ FairS i ss' cu' q (v :: r) ∧ dst i cu' q < dst i cu q)) := hd hcase
                    clear hlv hfs hdd hte hcase
                    rcases hjx with hjd | ⟨hjd, hj2, hj3⟩
                    · have hjl : (i : Int) ≤ (j : Int) := by simpa using hjd
                      go_upto_region 30 with (first | (go_at_call 18; refine htk.mono ?_; rintro e5 w5 ⟨rfl, L5⟩; have L6 := hd (L5.bel (below_al w5 (.cells #[.int .i64 0, .int .i64 0] 52))); clear L5))
                      obtain ⟨w6, hw6⟩ : ∃ W, Hid (w5.alloc (.cells #[.int .i64 0, .int .i64 0] 52) = W) := ⟨_, rfl⟩
                      rw [hw6.out] at L6 ⊢
                      obtain ⟨g, rfl, cg⟩ := hzk.out w6 L6.out
                      rcases HRS.out with ⟨ex, ev, hF⟩ | ⟨ex, hF, hD⟩
                      · have hxq : ((x : Int) == (q : Int)) = true := by simp [ex]
                        have hvv : (v' == v) = true := by simp [ev]
                        have HF := hd hF
                        clear ex ev hF
                        go_wp2_with fail
                        go_roundg (TT - (tt + 1))
                        case measure => omega
                        case rel => exact ⟨got + 1, tt + 1, by go_num, by go_num, by omega, by omega, hd ⟨ss', cu', L6.out, by rw [hgv.out.2]; exact HF.out, by
                          have h1 : dst i cu' q < i := dst_lt (by omega)
                          have h2 : (got + 1 + 1) * i = P + i := by rw [← hP.out, Nat.succ_mul]
                          omega⟩⟩
                      · have hxq : ((x : Int) == (q : Int)) = false := by simp; omega
                        have HF := hd hF
                        have HD2 := hd hD
                        clear ex hF hD
                        go_wp2_with fail
                        go_roundg (TT - (tt + 1))
                        case measure => omega
                        case rel => exact ⟨got, tt + 1, rfl, by go_num, by omega, by omega, hd ⟨ss', cu', L6.out, by rw [hvr.out]; exact HF.out, by
                          have h1 := HD2.out
                          have h2 := HDD.out
                          have h3 := hP.out
                          omega⟩⟩
                    · go_upto_region 30 with (first | (go_at_call 18; refine htk.mono ?_; rintro e5 w5 ⟨rfl, L5⟩; have L6 := hd (L5.bel (below_al w5 (.cells #[.int .i64 0, .int .i64 0] 52))); clear L5))
                      obtain ⟨w6, hw6⟩ : ∃ W, Hid (w5.alloc (.cells #[.int .i64 0, .int .i64 0] 52) = W) := ⟨_, rfl⟩
                      rw [hw6.out] at L6 ⊢
                      obtain ⟨g, rfl, cg⟩ := hzk.out w6 L6.out
                      rcases HRS.out with ⟨ex, ev, hF⟩ | ⟨ex, hF, hD⟩
                      · have hxq : ((x : Int) == (q : Int)) = true := by simp [ex]
                        have hvv : (v' == v) = true := by simp [ev]
                        have HF := hd hF
                        clear ex ev hF
                        go_wp2_with fail
                        go_roundg (TT - (tt + 1))
                        case measure => omega
                        case rel => exact ⟨got + 1, tt + 1, by go_num, by go_num, by omega, by omega, hd ⟨ss', cu', L6.out, by rw [hgv.out.2]; exact HF.out, by
                          have h1 : dst i cu' q < i := dst_lt (by omega)
                          have h2 : (got + 1 + 1) * i = P + i := by rw [← hP.out, Nat.succ_mul]
                          omega⟩⟩
                      · have hxq : ((x : Int) == (q : Int)) = false := by simp; omega
                        have HF := hd hF
                        have HD2 := hd hD
                        clear ex hF hD
                        go_wp2_with fail
                        go_roundg (TT - (tt + 1))
                        case measure => omega
                        case rel => exact ⟨got, tt + 1, rfl, by go_num, by omega, by omega, hd ⟨ss', cu', L6.out, by rw [hvr.out]; exact HF.out, by
                          have h1 := HD2.out
                          have h2 := HDD.out
                          have h3 := hP.out
                          omega⟩⟩
              · have hgd : decide ((got : Int) < (sl : Int)) = false := by simp; omega
                have hgl' : (sl : Int) ≤ (got : Int) := by omega
                have HB := hd (show Below w.heap.size w wr by obtain ⟨ss, cu, h1, _, _⟩ := HH.out; exact h1.below)
                clear HH
                go_wp2_with fail
                go_ret
                exact ⟨rfl, HB.out⟩
end Go.Proofs.Ytknklbojcnhjcaa
