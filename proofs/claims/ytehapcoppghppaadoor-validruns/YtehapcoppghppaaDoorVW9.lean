/- ValidRuns. -/
import Derived.Test.YtehapcoppghppaaDoorVW7
import Derived.Test.YtehapcoppghppaaDoorVM7
import Derived.Deep.DeepCutAuto
namespace Go.Proofs.YtehapcoppghppaaDoor
open Go.RowKit

/-- Bools in memory. -/
def Bls (w : World) (a : Option Addr) (bs : List Bool) : Prop := ∀ i, i < bs.length → ∃ b off, a = some ⟨b, off, none⟩ ∧ w.cell? ⟨b, off + i, none⟩ = some (.bool (bs.getD i false))
theorem Bls.kept {w w' : World} {a : Option Addr} {bs : List Bool} (h : Bls w a bs) (hb : Below w.heap.size w w') : Bls w' a bs := fun i hi => by
  obtain ⟨b, off, e, hc⟩ := h i hi
  exact ⟨b, off, e, (hb.cell (World.block_lt_of_cell? w _ hc)).trans hc⟩

set_option maxRecDepth 100000 in
set_option maxHeartbeats 4000000 in
theorem validRuns_walk (a aw : Option Addr) (cap cw : Nat) (l : List Ins) (k h : Int) (way : List Bool) (w : World) (hP : Prg w a l) (hB : Bls w aw way) (hF : Fld w) :
    Calls Tryd.prog 5 #[.agg #[.slice a l.length cap, .int .i64 k, .int .i64 h, .slice aw way.length cw]] w fun e w' => e = .returned (.bool true) ∧ Below w.heap.size w w' := by
  have HP : Hid (Prg w a l) := hP
  have HB : Hid (Bls w aw way) := hB
  have HF : Hid (Fld w) := hF
  have hFx := fun (W : World) (h : Below w.heap.size w W) => fixed_any W (HF.out.kept h)
  have hCk := fun (W : World) (hb : Below w.heap.size w W) => check8_any a cap l k h W (HP.out.kept hb) (HF.out.kept hb)
  have B1 : ∀ ob, Below w.heap.size w (w.alloc ob) := fun ob => (Below.refl w.heap.size w).alloc (Nat.le_refl _) ob
  clear hP hB hF
  go_enter Tryd.func5, Tryd.ntmps5
  go_wp2_with fail
  go_quiet (fail)
  go_upto_region 3 with (go_at_call 9; refine (hCk _ (below_drewN (B1 _) _)).mono ?_; rintro e1 w1 ⟨rfl, b1⟩)
  have BW1 : Below w.heap.size w w1 := (below_drewN (B1 _) _).trans (b1.mono (below_drewN (B1 _) _).size)
  have HB1 : Hid (Below w.heap.size w w1) := hd BW1
  by_cases hc : (checkL l k h).1 = 0
  · have HT : Hid (Taken l k h) := hd (taken hc)
    have hlen := HT.out.ok.len
    have hh0 := HT.out.h0
    have hh64 := HT.out.h64
    rw [hc]
    generalize (checkL l k h).2 = C at *
    clear hc hCk b1 BW1 B1
    go_wp2_with fail
    go_loopg [9, 10, 11, 12] 20001 (fun k' v9 v10 v11 v12 wr => ∃ i p s u : Nat, v9 = .int .i64 (s : Int) ∧ v10 = .int .i64 (u : Int) ∧ v11 = .int .i64 (p : Int) ∧ v12 = .int .i64 (i : Int) ∧ i + k' = 20001 ∧ Hid (Runs l h p s u ∧ Below w.heap.size w wr))
    case atStart => exact ⟨0, 0, 0, 0, rfl, rfl, rfl, rfl, by omega, hd ⟨runs_start l h, HB1.out⟩⟩
    case round =>
      obtain ⟨i, p, s, u, rfl, rfl, rfl, rfl, hik, HH⟩ := hrel
      have hi2 : i ≤ 20001 := by omega
      have BR : Hid (Below w.heap.size w wr) := hd HH.out.2
      have HR : Hid (Runs l h p s u) := hd HH.out.1
      have hs8 := HR.out.s256
      have hpl := HR.out.pl
      clear HH
      go_upto_region 9 with fail
      go_cut [39] (fun v39 wy => ∃ b : Bool, v39 = .bool b ∧ Hid (b = true → i < 20000) ∧ wy = wr)
      case first =>
        by_cases h1 : (i : Int) ≤ (way.length : Int)
        · by_cases h2 : (i : Int) < 20000
          · go_wp2_with fail
            go_meet
            case rel => exact ⟨true, rfl, hd (fun _ => by omega), rfl⟩
          · have h2' : decide ((i : Int) < 20000) = false := by simpa using h2
            go_wp2_with fail
            go_meet
            case rel => exact ⟨false, rfl, hd (fun h => by cases h), rfl⟩
        · have h1' : decide ((i : Int) ≤ (way.length : Int)) = false := by simpa using h1
          go_wp2_with fail
          go_meet
          case rel => exact ⟨false, rfl, hd (fun h => by cases h), rfl⟩
      case rest =>
        obtain ⟨b, rfl, hb, hwc⟩ := hcut
        obtain rfl : wr = wc := hwc.symm
        cases b
        · clear hb
          have hFx' := hFx wr BR.out
          go_wp2_with (go_at_call 7; refine hFx'.mono ?_; rintro e3 w3 ⟨rfl, b3⟩)
          go_ret
          exact ⟨rfl, BR.out.trans (b3.mono BR.out.size)⟩
        · have hi3 : i < 20000 := hb.out rfl
          go_upto_if 43 with fail
          go_cut [10] (fun v10 wy => ∃ u1 : Nat, v10 = .int .i64 (u1 : Int) ∧ Hid (u1 = if s = 0 then 0 else u + 1) ∧ wy = wr)
          case first =>
            by_cases hs0 : s = 0
            · have d0 : decide ((0 : Int) < (s : Int)) = false := by simp; omega
              have d0n : decide (0 < s) = false := by simp; omega
              have hu := HR.out.none hs0
              have HU : Hid (u = if s = 0 then 0 else u + 1) := hd (by rw [if_pos hs0]; exact hu)
              clear hs0 hu
              rw [d0n]
              go_wp2_with fail
              go_meet
              case rel => exact ⟨u, rfl, HU, rfl⟩
            · have d0 : (0 : Int) < (s : Int) := by omega
              have hu := HR.out.units HT.out hs0
              have hu' : decide (h < (u : Int) + 1) = false := by simp; omega
              have hu2 : decide (h ≤ (u : Int)) = false := by simp; omega
              have hub : (u : Int) ≤ 64 := by omega
              have HU : Hid (u + 1 = if s = 0 then 0 else u + 1) := hd (by rw [if_neg hs0])
              clear hs0
              go_wp2_with fail
              go_meet
              case rel => exact ⟨u + 1, by go_num, HU, rfl⟩
          case rest =>
            obtain ⟨u1, rfl, hu1, hwc⟩ := hcut
            obtain rfl : wr = wc := hwc.symm
            have hp0 : decide ((p : Int) < 0) = false := by simp
            have hp1 : decide ((l.length : Int) < (p : Int)) = false := by simp; omega
            have hFx' := hFx wr BR.out
            by_cases hpe : p = l.length
            · have dpe : ((p : Int) == (l.length : Int)) = true := by simp [hpe]
              clear hpe
              go_wp2_with (go_at_call 7; refine hFx'.mono ?_; rintro e3 w3 ⟨rfl, b3⟩)
              go_ret
              exact ⟨rfl, BR.out.trans (b3.mono BR.out.size)⟩
            · have dpe : ((p : Int) == (l.length : Int)) = false := by simp; omega
              have hpl2 : p < l.length := by omega
              have hpl3 : (p : Int) < (l.length : Int) := by omega
              obtain ⟨ba, off, rfl, hx⟩ := HP.out p hpl2
              have hx := hx.kept BR.out
              have HW : Hid (wrX (l.getD p default) s = 0) := hd (by
                have := HR.out.right HT.out
                unfold wrP at this
                rwa [if_neg (by omega)] at this)
              have HFo : Hid (folP l p s = folX (l.getD p default) p s) := hd (by unfold folP; rw [if_neg (by omega)])
              have HSt : Hid (∀ t ∈ folX (l.getD p default) p s, Runs l h t.1 t.2 (if t.2 = 0 then 0 else if s = 0 then 0 else u + 1)) := hd (fun t ht => HR.out.step HT.out (by rw [HFo.out]; exact ht))
              have HIm : Hid ((l.getD p default).op = 29 ∨ (l.getD p default).op = 30 → ∃ q : Nat, q < 8 ∧ (l.getD p default).imm = q ∧ (q : Int) < k) := hd (fun h => by
                obtain ⟨q, h1, h2⟩ := HT.out.ok.imm hpl2 h
                have := HT.out.lck p hpl2 h
                exact ⟨q, h1, h2, by omega⟩)
              have HJm : Hid ((l.getD p default).op = 22 ∨ (l.getD p default).op = 23 → ∃ q : Nat, q ≤ l.length ∧ (l.getD p default).imm = q) := hd (fun h => HT.out.ok.to hpl2 h)
              obtain ⟨k0, k1, k2, k3, k4⟩ := hx
              generalize l.getD p default = X at *
              obtain ⟨o, xa, xb, xc, xi⟩ := X
              simp only at k0 k1 k2 k3 k4
              have BA : Hid (∀ ob, Below w.heap.size w (wr.alloc ob)) := hd (fun ob => BR.out.alloc BR.out.size ob)
              by_cases e0 : o = 0
              · subst e0
                go_wp2_with (go_at_call 7; refine hFx'.mono ?_; rintro e3 w3 ⟨rfl, b3⟩)
                go_ret
                exact ⟨rfl, BR.out.trans (b3.mono BR.out.size)⟩
              have d0 : (o == 0) = false := by simpa using e0
              by_cases e22 : o = 22
              · obtain ⟨q, hq, rfl⟩ := HJm.out (.inl e22)
                have HN : Hid (Runs l h q s u1) := hd (by
                  have := HSt.out (q, s) (by rw [fo22 e22 rfl]; simp)
                  simp only at this
                  rw [hu1.out]
                  by_cases hs : s = 0
                  · rw [if_pos hs] at this ⊢; exact this
                  · rw [if_neg hs, if_neg hs] at this; rw [if_neg hs]; exact this)
                subst e22
                clear HSt HIm HJm HW HFo
                go_wp2_with fail
                go_roundg (gk - 1)
                case measure => omega
                case rel => exact ⟨i + 1, q, s, u1, rfl, rfl, rfl, by go_num, by omega, hd ⟨HN.out, BA.out _⟩⟩
              by_cases e23 : o = 23
              · obtain ⟨q, hq, rfl⟩ := HJm.out (.inr e23)
                have HN : Hid (Runs l h q s u1) := hd (by
                  have := HSt.out (q, s) (by rw [fo23 e23 rfl]; simp)
                  simp only at this
                  rw [hu1.out]
                  by_cases hs : s = 0
                  · rw [if_pos hs] at this ⊢; exact this
                  · rw [if_neg hs, if_neg hs] at this; rw [if_neg hs]; exact this)
                have HN' : Hid (Runs l h (p + 1) s u1) := hd (by
                  have := HSt.out (p + 1, s) (by rw [fo23 e23 rfl]; simp)
                  simp only at this
                  rw [hu1.out]
                  by_cases hs : s = 0
                  · rw [if_pos hs] at this ⊢; exact this
                  · rw [if_neg hs, if_neg hs] at this; rw [if_neg hs]; exact this)
                subst e23
                clear HSt HIm HJm HW HFo
                by_cases hiw : i < way.length
                · have hiw' : (i : Int) < (way.length : Int) := by omega
                  obtain ⟨bw, ow, rfl, hcw⟩ := HB.out.kept (BA.out (.cells #[.int .i64 23, .int .i64 xa, .int .i64 xb, .int .i64 xc, .int .i64 (q : Int)] 25)) i hiw
                  obtain ⟨bb, hbb⟩ : ∃ bb, Hid (way.getD i false = bb) := ⟨_, rfl⟩
                  rw [hbb.out] at hcw
                  cases bb
                  · go_wp2_with fail
                    go_roundg (gk - 1)
                    case measure => omega
                    case rel => exact ⟨i + 1, p + 1, s, u1, rfl, rfl, by go_num, by go_num, by omega, hd ⟨HN'.out, BA.out _⟩⟩
                  · go_wp2_with fail
                    go_roundg (gk - 1)
                    case measure => omega
                    case rel => exact ⟨i + 1, q, s, u1, rfl, rfl, rfl, by go_num, by omega, hd ⟨HN.out, BA.out _⟩⟩
                · have hiw' : decide ((i : Int) < (way.length : Int)) = false := by simp; omega
                  go_wp2_with fail
                  go_roundg (gk - 1)
                  case measure => omega
                  case rel => exact ⟨i + 1, p + 1, s, u1, rfl, rfl, by go_num, by go_num, by omega, hd ⟨HN'.out, BA.out _⟩⟩
              by_cases e29 : o = 29
              · obtain ⟨q, hq8, hqi, hqk⟩ := HIm.out (.inl e29)
                have HN : Hid (Runs l h (p + 1) (upS s q) u1) := hd (by
                  have := HSt.out (p + 1, upS s q) (by rw [fo29 e29 hqi]; simp)
                  simp only at this
                  have hps := upS_pos s q
                  rw [if_neg (by omega)] at this
                  rw [hu1.out]
                  exact this)
                have hz : s / 2 ^ q = 0 := by
                  have := HW.out
                  rw [wr29 e29 hqi] at this
                  refine Classical.byContradiction fun h => ?_
                  rw [if_neg h] at this
                  cases this
                simp only at hqi
                subst hqi
                have hsh := shr_nat s q
                rw [hz] at hsh
                have hup := or_up s q hs8 hq8
                obtain ⟨s', hs'⟩ : ∃ s', upS s q = s' := ⟨_, rfl⟩
                rw [hs'] at hup HN
                have hq0 : decide ((q : Int) < 0) = false := by simp
                have hqk' : decide (k ≤ (q : Int)) = false := by simp; omega
                have hqm : (q : Int) % 18446744073709551616 = (q : Int) := by omega
                subst e29
                clear HSt HIm HJm HW HFo hz hs' hqk
                go_wp2_with fail
                go_roundg (gk - 1)
                case measure => omega
                case rel => exact ⟨i + 1, p + 1, s', u1, rfl, rfl, by go_num, by go_num, by omega, hd ⟨HN.out, BA.out _⟩⟩
              by_cases e30 : o = 30
              · obtain ⟨q, hq8, hqi, hqk⟩ := HIm.out (.inr e30)
                have HN0 := HSt.out (p + 1, dnS s q) (by rw [fo30 e30 hqi]; simp)
                simp only at HN0
                have hz : ¬ s / 2 ^ q % 2 = 0 := by
                  intro h
                  have := HW.out
                  rw [wr30 e30 hqi, if_pos h] at this
                  cases this
                have hs0 : ¬ s = 0 := fun h => by rw [h] at hz; simp at hz
                rw [if_neg hs0] at HN0
                have hu1' : u1 = u + 1 := by rw [hu1.out, if_neg hs0]
                rw [← hu1'] at HN0
                have HN := hd HN0
                simp only at hqi
                subst hqi
                have hsh := shr_nat s q
                have hql : s / 2 ^ q ≤ s := Nat.div_le_self _ _
                obtain ⟨r, hr⟩ : ∃ r, s / 2 ^ q = r := ⟨_, rfl⟩
                rw [hr] at hsh hql hz
                have han := i64_and r 1 (by omega) (by decide)
                rw [Nat.and_one_is_mod, show r % 2 = 1 by omega] at han
                replace han : bits .and .i64 (r : Int) 1 = 1 := han
                have hdn := and_dn s q hs8 hq8
                obtain ⟨s', hs'⟩ : ∃ s', dnS s q = s' := ⟨_, rfl⟩
                rw [hs'] at hdn HN
                have hq0 : decide ((q : Int) < 0) = false := by simp
                have hqk' : decide (k ≤ (q : Int)) = false := by simp; omega
                have hqm : (q : Int) % 18446744073709551616 = (q : Int) := by omega
                subst e30
                clear HSt HIm HJm HW HFo hz hs' hqk hr hs0 hu1' HN0
                by_cases hs1 : s' = 0
                · have HN' : Hid (Runs l h (p + 1) s' 0) := hd (by have := HN.out; rwa [if_pos hs1] at this)
                  have ds : ((s' : Int) == 0) = true := by simp [hs1]
                  clear HN hs1
                  go_wp2_with fail
                  go_roundg (gk - 1)
                  case measure => omega
                  case rel => exact ⟨i + 1, p + 1, s', 0, rfl, rfl, by go_num, by go_num, by omega, hd ⟨HN'.out, BA.out _⟩⟩
                · have HN' : Hid (Runs l h (p + 1) s' u1) := hd (by have := HN.out; rwa [if_neg hs1] at this)
                  have ds : ((s' : Int) == 0) = false := by simp [hs1]
                  clear HN hs1
                  go_wp2_with fail
                  go_roundg (gk - 1)
                  case measure => omega
                  case rel => exact ⟨i + 1, p + 1, s', u1, rfl, rfl, by go_num, by go_num, by omega, hd ⟨HN'.out, BA.out _⟩⟩
              have HN : Hid (Runs l h (p + 1) s u1) := hd (by
                have := HSt.out (p + 1, s) (by rw [foO e0 e22 e23 e29 e30]; simp)
                simp only at this
                rw [hu1.out]
                by_cases hs : s = 0
                · rw [if_pos hs] at this ⊢; exact this
                · rw [if_neg hs, if_neg hs] at this; rw [if_neg hs]; exact this)
              have d22 : (o == 22) = false := by simpa using e22
              have d23 : (o == 23) = false := by simpa using e23
              have d29 : (o == 29) = false := by simpa using e29
              have d30 : (o == 30) = false := by simpa using e30
              by_cases ew : o = 24 ∨ o = 25 ∨ o = 28
              · have hs0 : s = 0 := by
                  refine Classical.byContradiction fun h => ?_
                  have := HW.out
                  rw [wrW ew, if_neg h] at this
                  cases this
                have ds : decide ((0 : Int) < (s : Int)) = false := by simp; omega
                have dsn : decide (0 < s) = false := by simp; omega
                clear HSt HIm HJm HW HFo e0 e22 e23 e29 e30 d0 d22 d23 d29 d30 hs0
                rcases ew with rfl | rfl | rfl
                · go_wp2_with fail
                  go_roundg (gk - 1)
                  case measure => omega
                  case rel => exact ⟨i + 1, p + 1, s, u1, rfl, rfl, by go_num, by go_num, by omega, hd ⟨HN.out, BA.out _⟩⟩
                · go_wp2_with fail
                  go_roundg (gk - 1)
                  case measure => omega
                  case rel => exact ⟨i + 1, p + 1, s, u1, rfl, rfl, by go_num, by go_num, by omega, hd ⟨HN.out, BA.out _⟩⟩
                · go_wp2_with fail
                  go_roundg (gk - 1)
                  case measure => omega
                  case rel => exact ⟨i + 1, p + 1, s, u1, rfl, rfl, by go_num, by go_num, by omega, hd ⟨HN.out, BA.out _⟩⟩
              · have d24 : (o == 24) = false := by simp; omega
                have d25 : (o == 25) = false := by simp; omega
                have d28 : (o == 28) = false := by simp; omega
                clear HSt HIm HJm HW HFo e0 e22 e23 e29 e30 ew
                go_wp2_with fail
                go_roundg (gk - 1)
                case measure => omega
                case rel => exact ⟨i + 1, p + 1, s, u1, rfl, rfl, by go_num, by go_num, by omega, hd ⟨HN.out, BA.out _⟩⟩
  · have d0 : ((checkL l k h).1 != 0) = true := by simpa using hc
    generalize checkL l k h = C at *
    have hFx' := hFx w1 BW1
    clear hc hCk
    go_wp2_with (go_at_call 7; refine hFx'.mono ?_; rintro e3 w3 ⟨rfl, b3⟩)
    go_ret
    exact ⟨rfl, BW1.trans (b3.mono BW1.size)⟩
end Go.Proofs.YtehapcoppghppaaDoor
