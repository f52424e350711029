/- The law's spoil. -/
import Derived.Test.YtknklbojcnhjcaaPD1
namespace Go.Proofs.Ytknklbojcnhjcaa
open Go.RowKit

set_option maxRecDepth 100000 in
set_option maxHeartbeats 4000000 in
theorem pspoil_any {B : Nat} {a : Option Addr} {c : Nat} {l : List TLn} {w : World} (h : TlIn B w a c l) (hl : l.length ≤ 1000) (hL : LenT l) :
    Calls Try.prog 11 #[.slice a l.length c] w fun e w' => e = .returned (.tuple #[]) ∧ Mod (tlf a l) w w' := by
  have HI := hd h
  have HL := hd hL
  have HS0 : Hid (SpI w w a c l 0) := hd ⟨⟨_, h.row, fun j _ => rfl⟩, fun j _ hj => h.at'.r1 j hj, fun j _ hj => h.at'.r2 j hj, Mod.refl _ _⟩
  obtain ⟨n, hnn⟩ : ∃ n, Hid (l.length = n) := ⟨_, rfl⟩
  rw [hnn.out] at hl ⊢
  clear h hL
  go_enter Try.func11, Try.ntmps11
  go_wp2_with fail
  go_loopg [2] n (fun k v2 wr => ∃ i : Nat, v2 = .int .i64 (i : Int) ∧ i + k = n ∧ Hid (SpI w wr a c l i))
  case atStart => exact ⟨0, rfl, by omega, HS0⟩
  case round =>
    obtain ⟨i, rfl, hik, HH⟩ := hrel
    clear HS0
    obtain ⟨wo, rfl⟩ : ∃ W, W = wr := ⟨_, rfl⟩
    by_cases hlt : i < n
    · have hlt' : (i : Int) < (n : Int) := by omega
      have hil : i < l.length := by rw [hnn.out]; exact hlt
      obtain ⟨xs, hR, hxs⟩ := HH.out.row
      obtain ⟨t0, t1, t2, t3⟩ := tlC_at l i hil
      obtain ⟨g, rfl⟩ := hR.head (by omega)
      have hcell : ∀ r u, r < 4 → (tlC l)[i * 4 + r]? = some u → wo.cell? ⟨g, i * 4 + r, none⟩ = some u := fun r u hr hu => by
        obtain ⟨g', e, hc⟩ := hR.cell (i * 4 + r) (by have := hnn.out; omega)
        cases e
        rw [hc, hxs _ (by omega), hu]
      have c0 := hcell 0 _ (by omega) t0
      have c1 := hcell 1 _ (by omega) t1
      have hlen := HL.out _ (tAt_mem hil)
      have HS1 : Hid (Sp wo wo (tb (tAt l i)) (tAt l i).a1 (tAt l i).vs.length (tAt l i).c1 (tAt l i).a2 (tAt l i).ws.length (tAt l i).c2) := hd
        ⟨⟨_, HH.out.r1 i (Nat.le_refl _) hil⟩, ⟨_, HH.out.r2 i (Nat.le_refl _) hil⟩, HI.out.at'.ne i hil, Mod.refl _ _, fun k hk => .inl (.inl hk), fun k hk => .inl (.inr hk)⟩
      have HNX : Hid (∀ (w1 : World), Mod (tb (tAt l i)) wo w1 → SpI w ((((w1.setCell ⟨g, i * 4, none⟩ (.slice none 0 0)).setCell ⟨g, i * 4 + 1, none⟩ (.slice none 0 0)).setCell ⟨g, i * 4 + 2, none⟩ (.int .i64 (-7))).setCell ⟨g, i * 4 + 3, none⟩ (.int .i64 0)) (some ⟨g, 0, none⟩) c l (i + 1) ∧ (∃ u0 u1 u2 u3, w1.cell? ⟨g, i * 4, none⟩ = some u0 ∧ w1.cell? ⟨g, i * 4 + 1, none⟩ = some u1 ∧ w1.cell? ⟨g, i * 4 + 2, none⟩ = some u2 ∧ w1.cell? ⟨g, i * 4 + 3, none⟩ = some u3) ∧ ∀ j, w1.frozen? ⟨g, j, none⟩ = false) := hd (fun w1 hm => by
        have hR1 := hR.mod hm (fun k hk => by cases hk; exact (HI.out.ge g rfl).2 i hil)
        have hc : ∀ j, j < n * 4 → ∃ u, w1.cell? ⟨g, j, none⟩ = some u := fun j hj => by
          obtain ⟨g', e, hc⟩ := hR1.cell j (by have := hnn.out; omega)
          cases e
          have hln := hR1.len
          exact ⟨_, hc.trans (List.getElem?_eq_getElem (by have := hnn.out; omega))⟩
        obtain ⟨u0, d0⟩ := hc (i * 4) (by omega)
        obtain ⟨u1, d1⟩ := hc (i * 4 + 1) (by omega)
        obtain ⟨u2, d2⟩ := hc (i * 4 + 2) (by omega)
        obtain ⟨u3, d3⟩ := hc (i * 4 + 3) (by omega)
        exact ⟨HH.out.next HI.out hil hm _ _ _ _, ⟨u0, u1, u2, u3, d0, d1, d2, d3⟩, fun j => hR1.free j g rfl⟩)
      obtain ⟨t, ht⟩ : ∃ t, Hid (tAt l i = t) := ⟨_, rfl⟩
      rw [ht.out] at c0 c1 hlen HS1 HNX
      rw [Nat.add_zero] at c0
      obtain ⟨S, hS⟩ : ∃ S, Hid (tb t = S) := ⟨_, rfl⟩
      rw [hS.out] at HS1 HNX
      obtain ⟨a1, ha1⟩ : ∃ x, Hid (t.a1 = x) := ⟨_, rfl⟩
      obtain ⟨a2, ha2⟩ : ∃ x, Hid (t.a2 = x) := ⟨_, rfl⟩
      obtain ⟨e1, he1⟩ : ∃ x, Hid (t.c1 = x) := ⟨_, rfl⟩
      obtain ⟨e2, he2⟩ : ∃ x, Hid (t.c2 = x) := ⟨_, rfl⟩
      obtain ⟨vn, hvn⟩ : ∃ vn, Hid (t.vs.length = vn) := ⟨_, rfl⟩
      obtain ⟨wn, hwn⟩ : ∃ wn, Hid (t.ws.length = wn) := ⟨_, rfl⟩
      rw [ha1.out, he1.out, hvn.out] at c0 HS1
      rw [ha2.out, he2.out, hwn.out] at c1 HS1
      rw [hvn.out, hwn.out] at hlen
      obtain ⟨hv7, hw7⟩ := hlen
      clear hR hxs t0 t1 t2 t3 hcell HH hil
      go_wp2_with fail
      go_loopg [5] vn (fun k v5 wq => ∃ j : Nat, v5 = .int .i64 (j : Int) ∧ j + k = vn ∧ Hid (Sp wo wq S a1 vn e1 a2 wn e2))
      case atStart => exact ⟨0, rfl, by omega, HS1⟩
      case round =>
        obtain ⟨j, rfl, hjk, HQ⟩ := hrel
        clear HS1 c0 c1
        by_cases hlt2 : j < vn
        · have hlt2' : (j : Int) < (vn : Int) := by omega
          obtain ⟨ys, hr⟩ := HQ.out.r1
          obtain ⟨ga, rfl⟩ := hr.head (by omega)
          obtain ⟨g', eg, x0⟩ := hr.cell j (by omega)
          cases eg
          obtain ⟨u, hu⟩ : ∃ u, ys[j]? = some u := ⟨_, List.getElem?_eq_getElem (by rw [hr.len]; omega)⟩
          rw [hu] at x0
          have xf := hr.free j ga rfl
          have HS2 := hd (HQ.out.put1 j (.int .i64 (-7)))
          clear hr hu HQ
          go_wp2_with fail
          go_roundg (gk - 1)
          case measure => omega
          case rel => exact ⟨j + 1, by go_num, by omega, HS2⟩
        · have hltd : decide ((j : Int) < (vn : Int)) = false := by simp; omega
          have hle : (vn : Int) ≤ (j : Int) := by omega
          go_wp2_with fail
          go_loopg [6] wn (fun k v6 wq => ∃ y : Nat, v6 = .int .i64 (y : Int) ∧ y + k = wn ∧ Hid (Sp wo wq S a1 vn e1 a2 wn e2))
          case atStart => exact ⟨0, rfl, by omega, HQ⟩
          case round =>
            clear HQ
            obtain ⟨y, rfl, hyk, HQ⟩ := hrel
            by_cases hlt3 : y < wn
            · have hlt3' : (y : Int) < (wn : Int) := by omega
              obtain ⟨ys, hr⟩ := HQ.out.r2
              obtain ⟨ga, rfl⟩ := hr.head (by omega)
              obtain ⟨g', eg, x0⟩ := hr.cell (y * 2) (by omega)
              cases eg
              obtain ⟨g', eg, x1⟩ := hr.cell (y * 2 + 1) (by omega)
              cases eg
              obtain ⟨u, hu⟩ : ∃ u, ys[y * 2]? = some u := ⟨_, List.getElem?_eq_getElem (by rw [hr.len]; omega)⟩
              obtain ⟨u', hu'⟩ : ∃ u, ys[y * 2 + 1]? = some u := ⟨_, List.getElem?_eq_getElem (by rw [hr.len]; omega)⟩
              rw [hu] at x0
              rw [hu'] at x1
              have xf := hr.free (y * 2) ga rfl
              have xf1 := hr.free (y * 2 + 1) ga rfl
              have HS2 := hd ((HQ.out.put2 (y * 2) (.int .i64 (-7))).put2 (y * 2 + 1) (.int .i64 0))
              clear hr hu hu' HQ
              go_wp2_with fail
              go_roundg (gk - 1)
              case measure => omega
              case rel => exact ⟨y + 1, by go_num, by omega, HS2⟩
            · have hltd2 : decide ((y : Int) < (wn : Int)) = false := by simp; omega
              have hle2 : (wn : Int) ≤ (y : Int) := by omega
              go_wp2_with fail
              go_loopg [3, 4, 7] 5 (fun k v3 v4 v7 wq => ∃ (z n' m' d1 d2 : Nat) (b1 b2 : Option Addr), v3 = .slice b1 n' d1 ∧ v4 = .slice b2 m' d2 ∧ v7 = .int .i64 (z : Int) ∧ z + k = 5 ∧ Hid (n' = vn + z ∧ m' = wn + z ∧ Sp wo wq S b1 n' d1 b2 m' d2))
              case atStart => exact ⟨0, vn, wn, e1, e2, a1, a2, rfl, rfl, rfl, by omega, hd ⟨rfl, rfl, HQ.out⟩⟩
              case round =>
                clear HQ
                obtain ⟨z, n', m', d1, d2, b1, b2, rfl, rfl, rfl, hzk, HQ⟩ := hrel
                by_cases hlt4 : z < 5
                · have hlt4' : (z : Int) < 5 := by omega
                  obtain ⟨hn', hm', hsp⟩ := HQ.out
                  obtain ⟨xs1, hr1⟩ := hsp.r1
                  obtain ⟨a', c', w2, hap, R2, M2, B2⟩ := push_i hr1 (by omega) (-8)
                  have S2 := hsp.app1 R2 M2 B2
                  obtain ⟨ys1, hr2⟩ := S2.r2
                  obtain ⟨a'', c'', w3, hap3, R3, M3, B3⟩ := push_w hr2 (by omega) (-8) 0
                  have HS3 : Hid (n' + 1 = vn + (z + 1) ∧ m' + 1 = wn + (z + 1) ∧ Sp wo w3 S a' (n' + 1) c' a'' (m' + 1) c'') := hd ⟨by omega, by omega, S2.app2 R3 M3 B3⟩
                  replace hap := hd hap
                  replace hap3 := hd hap3
                  clear hr1 hr2 R2 M2 B2 R3 M3 B3 S2 HQ hn' hm' hsp
                  go_wp2_with (first | (at_builtin; first | (refine wpList_append_run rfl _ _ _ rfl _ _ _ _ rfl rfl hap.out ?_; clear hap) | (refine wpList_append_run rfl _ _ _ rfl _ _ _ _ rfl rfl hap3.out ?_; clear hap3)))
                  go_roundg (gk - 1)
                  case measure => omega
                  case rel => exact ⟨z + 1, n' + 1, m' + 1, c', c'', a', a'', rfl, rfl, by go_num, by omega, HS3⟩
                · have hltd3 : decide ((z : Int) < 5) = false := by simp; omega
                  have hle3 : (5 : Int) ≤ (z : Int) := by omega
                  obtain ⟨hsi, ⟨u0, u1, u2, u3, z0, z1, z2, z3⟩, zf⟩ := HNX.out wr HQ.out.2.2.mod
                  have HSI := hd hsi
                  clear hsi HQ
                  go_wp2_with fail
                  go_roundg (n - (i + 1))
                  case measure => omega
                  case rel => exact ⟨i + 1, by go_num, by omega, HSI⟩
    · have hltd : decide ((i : Int) < (n : Int)) = false := by simp; omega
      have hle : (n : Int) ≤ (i : Int) := by omega
      have HM := hd HH.out.mod
      obtain ⟨xs, hR, -⟩ := HH.out.row
      rw [hnn.out] at hR
      have HR := hd hR
      obtain ⟨S, hS⟩ : ∃ S, Hid (tlf a l = S) := ⟨_, rfl⟩
      have HA : Hid (∀ k, blk a = some k → S k) := hd (fun k hk => by rw [← hS.out]; exact .inl hk)
      rw [hS.out] at HM
      clear hR HH
      go_wp2_with fail
      go_loopg [0, 8] 5 (fun k v0 v8 wq => ∃ (z m cx : Nat) (ax : Option Addr), v0 = .slice ax m cx ∧ v8 = .int .i64 (z : Int) ∧ z + k = 5 ∧ Hid (m = n + z ∧ (∃ ys, Row wq 29 4 ax m cx ys) ∧ (∀ k, blk ax = some k → S k ∨ w.heap.size ≤ k) ∧ Mod S w wq))
      case atStart => exact ⟨0, n, c, a, rfl, rfl, by omega, hd ⟨rfl, ⟨_, HR.out⟩, fun k hk => .inl (HA.out k hk), HM.out⟩⟩
      case round =>
        obtain ⟨z, m, cx, ax, rfl, rfl, hzk, HQ⟩ := hrel
        by_cases hlt4 : z < 5
        · have hlt4' : (z : Int) < 5 := by omega
          obtain ⟨hm, ⟨ys, hr⟩, hin, hmd⟩ := HQ.out
          obtain ⟨a', c', w2, hap, R2, M2, B2⟩ := push_any (us := [.slice none 0 0, .slice none 0 0, .int .i64 (-8), .int .i64 0]) Try.underlying22 infoA rfl (by decide) hr (by omega) rfl (fun u hu => by simp at hu; rcases hu with rfl | rfl | rfl <;> rfl)
          have HS3 : Hid (m + 1 = n + (z + 1) ∧ (∃ ys, Row w2 29 4 a' (m + 1) c' ys) ∧ (∀ k, blk a' = some k → S k ∨ w.heap.size ≤ k) ∧ Mod S w w2) := hd ⟨by omega, ⟨_, R2⟩, fun k hk => by
            rcases B2 k hk with h1 | h1
            · exact hin k h1
            · exact .inr (Nat.le_trans hmd.size h1), hmd.trans M2 hin⟩
          replace hap := hd hap
          clear hr R2 M2 B2 HQ hm hin hmd
          go_wp2_with (first | (at_builtin; refine wpList_append_run rfl _ _ _ rfl _ _ _ _ rfl rfl hap.out ?_; clear hap))
          go_roundg (gk - 1)
          case measure => omega
          case rel => exact ⟨z + 1, m + 1, c', a', rfl, by go_num, by omega, HS3⟩
        · have hltd3 : decide ((z : Int) < 5) = false := by simp; omega
          have hle3 : (5 : Int) ≤ (z : Int) := by omega
          have HE := hd HQ.out.2.2.2
          clear HQ
          go_wp2_with fail
          refine bodyPost_end (results_none rfl _ _ _) rfl ?_
          exact ⟨rfl, by rw [hS.out]; exact HE.out⟩
end Go.Proofs.Ytknklbojcnhjcaa
