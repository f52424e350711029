/- stands. -/
import Derived.Test.YtdihbbpndijdoaaKS1
namespace Go.Proofs.Ytdihbbpndijdoaa
open Go.RowKit Go.Maps

/-- But for the blocks from B0 to B1, and what is new, the world is as it was. -/
def SpM (B0 B1 : Nat) (W2 wr : World) : Prop := Mod (fun k => B0 ≤ k ∧ k < B1) W2 wr
/-- What was told first, while it is written over: the lists from i on are as they were. -/
structure SpI (B0 B1 : Nat) (W2 wr : World) (n i : Nat) (a1 : Option Addr) (c1 : Nat) (a2 : Option Addr) (c2 : Nat) (es : List Qe) : Prop where
  mod : SpM B0 B1 W2 wr
  ql : QL wr B0 i a2 c2 es
  len : es.length = n
  own : ∃ lo, Row wr 3 1 a1 n c1 (iC lo)
  ob : ∀ k, blk a1 = some k → B0 ≤ k ∧ k < B1 ∧ ¬ qfp i a2 es k
  qb : ∀ k, qfp i a2 es k → B0 ≤ k ∧ k < B1
  small : ∀ j, i ≤ j → j < n → (eAt es j).2.2.length ≤ 6000000000000
section
variable {B0 B1 : Nat} {W2 wr w' : World} {n i : Nat} {a1 : Option Addr} {c1 : Nat} {a2 : Option Addr} {c2 : Nat} {es : List Qe}
theorem SpM.below {wx : World} (h : SpM B0 B1 W2 wr) (hb : Below wr.heap.size wr wx) : SpM B0 B1 W2 wx := Mod.after h hb
theorem SpI.below (h : SpI B0 B1 W2 wr n i a1 c1 a2 c2 es) (hb : Below wr.heap.size wr w') : SpI B0 B1 W2 w' n i a1 c1 a2 c2 es := by
  obtain ⟨lo, hr⟩ := h.own
  exact ⟨h.mod.below hb, h.ql.below hb, h.len, ⟨lo, hr.below hb⟩, h.ob, h.qb, h.small⟩
theorem SpI.poke (h : SpI B0 B1 W2 wr n i a1 c1 a2 c2 es) (hi : i < n) {g o : Nat} (ha : (eAt es i).1 = some ⟨g, o, none⟩) {k : Nat} (v : Int) :
    SpI B0 B1 W2 (wr.setCell ⟨g, o + k, none⟩ (.int .i64 v)) n i a1 c1 a2 c2 (es.set i ((eAt es i).1, (eAt es i).2.1, (eAt es i).2.2.set k v)) := by
  have hie : i < es.length := by rw [h.len]; exact hi
  have hg : qfp i a2 es g := .inr ⟨i, Nat.le_refl _, hie, by rw [ha]; rfl⟩
  have hm : Mod (fun j => j = g) wr (wr.setCell ⟨g, o + k, none⟩ (.int .i64 v)) := (Mod.refl (fun j => j = g) wr).setCell (.inl rfl) _
  obtain ⟨lo, hr⟩ := h.own
  have hq := qfp_set (lo := i) (a := a2) (e' := ((eAt es i).1, (eAt es i).2.1, (eAt es i).2.2.set k v)) hie (fun _ h => h)
  refine ⟨Mod.trans h.mod hm (fun j hj => .inl (by rw [hj]; exact h.qb g hg)), h.ql.poke (Nat.le_refl _) hie ha v, by rw [List.length_set]; exact h.len, ⟨lo, hr.mod hm (fun j hj e => (h.ob j hj).2.2 (by rw [e]; exact hg))⟩, fun j hj => ⟨(h.ob j hj).1, (h.ob j hj).2.1, fun e => (h.ob j hj).2.2 (hq j e)⟩, fun j hj => h.qb j (hq j hj), fun j h1 h2 => ?_⟩
  rw [eAt_set hie]
  split
  · simp only [List.length_set]
    exact h.small i (Nat.le_refl _) hi
  · exact h.small j h1 h2
/-- The list i is done with. -/
theorem SpI.next (h : SpI B0 B1 W2 wr n i a1 c1 a2 c2 es) : SpI B0 B1 W2 wr n (i + 1) a1 c1 a2 c2 es :=
  ⟨h.mod, h.ql.mono (Nat.le_succ _), h.len, h.own, fun k hk => ⟨(h.ob k hk).1, (h.ob k hk).2.1, fun e => (h.ob k hk).2.2 (qfp_mono (Nat.le_succ _) k e)⟩, fun k hk => h.qb k (qfp_mono (Nat.le_succ _) k hk), fun j h1 h2 => h.small j (by omega) h2⟩
/-- Something else is written, in memory of the first answer's or new memory. -/
theorem SpI.mod' {S : Nat → Prop} (h : SpI B0 B1 W2 wr n i a1 c1 a2 c2 es) (hm : Mod S wr w') (hS : ∀ k, S k → (B0 ≤ k ∧ k < B1) ∨ W2.heap.size ≤ k) (hn : ∀ k, S k → ¬ qfp i a2 es k ∧ blk a1 ≠ some k) : SpI B0 B1 W2 w' n i a1 c1 a2 c2 es := by
  obtain ⟨lo, hr⟩ := h.own
  exact ⟨Mod.trans h.mod hm hS, h.ql.mod hm (fun k hk e => (hn k e).1 hk), h.len, ⟨lo, hr.mod hm (fun k hk e => (hn k e).2 hk)⟩, h.ob, h.qb, h.small⟩
theorem SpI.drop {g : Nat} (h : SpI B0 B1 W2 wr n (i + 1) a1 c1 (some ⟨g, 0, none⟩) c2 es) (hi : i < n) (e' : Qe) : SpI B0 B1 W2 (wr.setCell ⟨g, i, none⟩ (sV e')) n (i + 1) a1 c1 (some ⟨g, 0, none⟩) c2 (es.set i e') := by
  have hie : i < es.length := by rw [h.len]; exact hi
  have hg : qfp (i + 1) (some ⟨g, 0, none⟩) es g := .inl rfl
  have hm : Mod (fun j => j = g) wr (wr.setCell ⟨g, i, none⟩ (sV e')) := (Mod.refl (fun j => j = g) wr).setCell (.inl rfl) _
  obtain ⟨lo, hr⟩ := h.own
  have hq := qfp_low (lo := i + 1) (a := some ⟨g, 0, none⟩) (e' := e') hie (Nat.lt_succ_self _)
  refine ⟨Mod.trans h.mod hm (fun j hj => .inl (by rw [hj]; exact h.qb g hg)), h.ql.drop hie (Nat.lt_succ_self _) e', by rw [List.length_set]; exact h.len, ⟨lo, hr.mod hm (fun j hj e => (h.ob j hj).2.2 (by rw [e]; exact hg))⟩, fun j hj => ⟨(h.ob j hj).1, (h.ob j hj).2.1, fun e => (h.ob j hj).2.2 (hq j e)⟩, fun j hj => h.qb j (hq j hj), fun j h1 h2 => ?_⟩
  rw [eAt_set hie, if_neg (by omega)]
  exact h.small j h1 h2
end

set_option maxRecDepth 100000 in
set_option maxHeartbeats 8000000 in
theorem stands_any {w : World} {b1 b2 : Nat} {F1 F2 : Nat → Prop} {os : List Int} {qs : Qs} (h1 : Lk w b1 F1 os qs) (h2 : Rk w b2 F2 os qs) (ht : total qs ≤ 6000000000000) :
    Calls Try.prog 22 #[.pointer (some ⟨b1, 0, none⟩), .pointer (some ⟨b2, 0, none⟩)] w fun e w' => e = .returned (.bool true) ∧ Below w.heap.size w w' := by
  have hs1 := state_any h1 (by omega)
  have H1 := hd h1
  obtain ⟨hl, h8, ao, co, aq, cq, es3, hL, hq, -, -⟩ := h2
  have HL := hd hL
  have hel : es3.length = os.length := by rw [← hl, ← hq, qsOf_len]
  obtain ⟨n, hN⟩ : ∃ n, Hid (os.length = n) := ⟨_, rfl⟩
  rw [hN.out] at h8 hs1
  have HQL : Hid (qs.length = n) := hd (by rw [hl, hN.out])
  have HEL : Hid (es3.length = n) := hd (by rw [hel, hN.out])
  have HTQ : Hid (∀ i, (qAt qs i).length ≤ 6000000000000) := hd (fun i => Nat.le_trans (total_le i) ht)
  have HQ3 : Hid (∀ i, qAt qs i = (eAt es3 i).2.2) := hd (fun i => by rw [← hq, qAt_of])
  have hne : ((n : Int) != (n : Int)) = false := by simp
  clear h1 hL hel hl hq
  go_enter Try.func22, Try.ntmps22
  go_upto_region 2 with (first | (go_at_call 15; refine hs1.mono ?_; rintro e1 w1 ⟨a1, c1, a2, c2, es1, rfl, hT1⟩))
  have hs2 := state_any (H1.out.below hT1.bel) (by omega)
  rw [hN.out] at hs2
  have HT1 := hd hT1
  clear hs1 hT1
  go_upto_region 3 with (first | (go_at_call 15; refine hs2.mono ?_; rintro e2 w2 ⟨a3, c3, a4, c4, es2, rfl, hT2⟩))
  have HT2 := hd hT2
  have hB01 : w.heap.size ≤ w1.heap.size := HT1.out.bel.size
  have HB2 : Hid (Below w.heap.size w w2) := hd (HT1.out.bel.trans (hT2.bel.mono hB01))
  -- what is read of the document's locks, and of the second answer
  have HRX : Hid (∀ W, SpM w.heap.size w1.heap.size w2 W → W.cell? ⟨b2, 0, none⟩ = some (.slice ao n co) ∧ Rd W ao (iC os) ∧ W.cell? ⟨b2, 1, none⟩ = some (.slice aq n cq) ∧ ∀ i, i < n → ∃ g, aq = some ⟨g, 0, none⟩ ∧ W.cell? ⟨g, i, none⟩ = some (.slice (eAt es3 i).1 (qAt qs i).length (eAt es3 i).2.1) ∧ Rd W (eAt es3 i).1 (iC (qAt qs i))) := hd (fun W hW => by
    have hm : Mod (fun k => w.heap.size ≤ k) w W := (Mod.of_below _ HB2.out).trans hW (fun k hk => .inl hk.1)
    have hx := HL.out.mod hm (fun k hk e => by have := HL.out.lt k hk; omega)
    have e0 := hx.c0
    have e1 := hx.c1
    rw [hN.out] at e0
    rw [HEL.out] at e1
    refine ⟨e0, hx.ro.rd, e1, fun i hi => ?_⟩
    obtain ⟨g, eg, e2⟩ := hx.queue i (by rw [HEL.out]; exact hi)
    rw [HQ3.out i]
    exact ⟨g, eg, e2, (hx.qs i (by rw [HEL.out]; exact hi)).rd⟩)
  have HRP : Hid (∀ W, SpM w.heap.size w1.heap.size w2 W → Rd W a3 (iC os) ∧ ∀ i, i < n → ∃ g, a4 = some ⟨g, 0, none⟩ ∧ W.cell? ⟨g, i, none⟩ = some (.slice (eAt es2 i).1 (qAt qs i).length (eAt es2 i).2.1) ∧ Rd W (eAt es2 i).1 (iC (qAt qs i))) := hd (fun W hW => by
    have hql := hT2.ql.mod hW (fun k hk e => by have := hT2.ql.ge k hk; omega)
    have ho := hT2.own.mod hW (fun k hk e => by have := (hT2.new k hk).1; omega)
    have hl2 : es2.length = n := by rw [← qsOf_len, hT2.qs, HQL.out]
    refine ⟨ho.rd, fun i hi => ?_⟩
    obtain ⟨g, eg, e2, -⟩ := hql.cell i (by rw [hl2]; exact hi)
    have e3 : qAt qs i = (eAt es2 i).2.2 := by rw [← hT2.qs, qAt_of]
    rw [e3]
    exact ⟨g, eg, e2, (hql.qs i (Nat.zero_le _) (by rw [hl2]; exact hi)).rd⟩)
  have HSP0 : Hid (∀ W, Below w2.heap.size w2 W → SpI w.heap.size w1.heap.size w2 W n 0 a1 c1 a2 c2 es1) := hd (fun W hb => by
    have hT1 := HT1.out
    have hl1 : es1.length = n := by rw [← qsOf_len, hT1.qs, HQL.out]
    have hbb := hT2.bel.trans (hb.mono hT2.bel.size)
    have hown := hT1.own
    rw [hN.out] at hown
    exact ⟨Mod.of_below _ hb, hT1.ql.below hbb, hl1, ⟨os, hown.below hbb⟩, fun k hk => ⟨(hT1.new k hk).1, hown.lt k hk, (hT1.new k hk).2⟩, fun k hk => ⟨hT1.ql.ge k hk, hT1.ql.lt k hk⟩, fun j _ _ => by
      have e : (eAt es1 j).2.2 = qAt qs j := by rw [← hT1.qs, qAt_of]
      rw [e]; exact HTQ.out j⟩)
  have HQ1 : Hid (∀ i, qAt qs i = (eAt es1 i).2.2) := hd (fun i => by rw [← HT1.out.qs, qAt_of])
  have HO1 : Hid (∀ W, Below w2.heap.size w2 W → Rd W a1 (iC os)) := hd (fun W hb => (HT1.out.own.below (hT2.bel.trans (hb.mono hT2.bel.size))).rd)
  have HFB : Hid (∀ W, SpM w.heap.size w1.heap.size w2 W → Below w.heap.size w W) := hd (fun W hW => HB2.out.trans (Mod.below hW HB2.out.size (fun k _ hk => hk.1)))
  obtain ⟨x0, xr, x1, xq⟩ := HRX.out w2 (Mod.refl _ _)
  have hi1 := ints_b (c1 := c1) (c2 := co) (HO1.out w2 (below_same w2)) xr hN (by omega)
  have HI2 : Hid (∀ W, Below w2.heap.size w2 W → W.cell? ⟨b2, 0, none⟩ = some (.slice ao n co) ∧ W.cell? ⟨b2, 1, none⟩ = some (.slice aq n cq) ∧ Calls Try.prog 25 #[.slice a3 n c3, .slice ao n co] W fun e w' => e = .returned (.bool true) ∧ Below W.heap.size W w') := hd (fun W hb => by
    have hsp : SpM w.heap.size w1.heap.size w2 W := Mod.of_below _ hb
    obtain ⟨y0, y1, y2, _⟩ := HRX.out W hsp
    exact ⟨y0, y2, ints_b (HRP.out W hsp).1 y1 hN (by omega)⟩)
  obtain ⟨B0, hB0⟩ : ∃ B0, Hid (w.heap.size = B0) := ⟨_, rfl⟩
  obtain ⟨B1, hB1⟩ : ∃ B1, Hid (w1.heap.size = B1) := ⟨_, rfl⟩
  have HBB : Hid (B0 ≤ B1) := hd (by rw [← hB0.out, ← hB1.out]; exact hB01)
  rw [hB0.out, hB1.out] at HRX HRP HSP0
  rw [hB0.out, hB1.out] at HFB
  clear hs2 hT2 HT1 HT2 xr xq H1 HL hB01 ht HB2
  go_upto_region 5 with (first
    | (go_at_call 25; refine hi1.mono ?_; rintro e3 w3 ⟨rfl, b3⟩
       clear hi1
       obtain ⟨y0, y1, hi2⟩ := HI2.out w3 b3)
    | (go_at_call 25; refine hi2.mono ?_; rintro e4 w4 ⟨rfl, b4⟩
       clear hi2
       have hb4 := b3.trans (b4.mono b3.size)
       obtain ⟨yy0, yy1, -⟩ := HI2.out w4 hb4))
  have HB4 := hd hb4
  clear b3 b4 hb4 y0 y1 yy0 yy1 HI2 x0 x1 HO1
  go_wp2_with fail
  go_loopg [9, 63, 64, 65, 66, 67, 68, 69, 70, 71, 72, 73, 74, 75, 76, 77, 78, 79, 80, 81] n (fun k v9 v63 v64 v65 v66 v67 v68 v69 v70 v71 v72 v73 v74 v75 v76 v77 v78 v79 v80 v81 wr => ∃ i : Nat, i + k = n ∧ v9 = .int .i64 (i : Int) ∧ Hid (Below w2.heap.size w2 wr))
  case atStart => exact ⟨0, by omega, by go_num, HB4⟩
  case round =>
    obtain ⟨i, hik, rfl, HBR⟩ := hrel
    clear HB4
    by_cases h0 : gk = 0
    · subst h0
      have hi : i = n := by omega
      subst hi
      have HSP := hd (HSP0.out wr HBR.out)
      clear hik HSP0 HBR HQ1
      go_wp2_with fail
      go_loopg [10, 11, 12, 13, 82, 83, 84, 85, 86, 87, 88, 89, 90, 91, 92, 93, 94, 95, 96, 97, 98, 99, 100, 101, 102, 103, 104, 105, 106, 107, 108, 109, 110, 111, 112, 113, 114, 115, 116, 117] i (fun k v10 v11 v12 v13 v82 v83 v84 v85 v86 v87 v88 v89 v90 v91 v92 v93 v94 v95 v96 v97 v98 v99 v100 v101 v102 v103 v104 v105 v106 v107 v108 v109 v110 v111 v112 v113 v114 v115 v116 v117 wr => ∃ j : Nat, j + k = i ∧ v10 = .int .i64 (j : Int) ∧ Hid (∃ es, SpI B0 B1 w2 wr i j a1 c1 a2 c2 es))
      case atStart => exact ⟨0, by omega, by go_num, hd ⟨es1, HSP.out⟩⟩
      case round =>
        obtain ⟨j, hjk, rfl, HX⟩ := hrel
        clear HSP
        obtain ⟨es, hS⟩ := HX.out
        by_cases h0 : gk = 0
        · subst h0
          have hj : j = i := by omega
          subst hj
          have HOB : Hid (∀ k, blk a1 = some k → B0 ≤ k ∧ k < B1) := hd (fun k hk => ⟨(hS.ob k hk).1, (hS.ob k hk).2.1⟩)
          have HS3 : Hid (SpM B0 B1 w2 wr ∧ ∃ lo, Row wr 3 1 a1 j c1 (iC lo)) := hd ⟨hS.mod, hS.own⟩
          clear HX hS hjk
          go_wp2_with fail
          go_loopg [14, 118, 119, 120, 121, 122, 123, 124, 125, 126] j (fun k v14 v118 v119 v120 v121 v122 v123 v124 v125 v126 wr => ∃ i : Nat, i + k = j ∧ v14 = .int .i64 (i : Int) ∧ Hid (SpM B0 B1 w2 wr ∧ ∃ lo, Row wr 3 1 a1 j c1 (iC lo)))
          case atStart => exact ⟨0, by omega, by go_num, HS3⟩
          case round =>
            obtain ⟨i, hik, rfl, HX⟩ := hrel
            clear HS3
            obtain ⟨hM, lo, hR⟩ := HX.out
            by_cases h0 : gk = 0
            · subst h0
              have hi : i = j := by omega
              subst hi
              have HS4 : Hid (SpM B0 B1 w2 wr ∧ ∃ lo, Row wr 3 1 a1 (i + 0) c1 (iC lo) ∧ ∀ k, blk a1 = some k → (B0 ≤ k ∧ k < B1) ∨ w2.heap.size ≤ k) := hd ⟨hM, lo, hR, fun k hk => .inl (HOB.out k hk)⟩
              clear HX hM hR hik HOB
              go_wp2_with fail
              go_loopg [5, 15, 127, 128, 129, 130, 131, 132, 133] 9 (fun k v5 v15 v127 v128 v129 v130 v131 v132 v133 wr => ∃ (m c : Nat) (a : Option Addr), m + k = 9 ∧ v15 = .int .i64 (m : Int) ∧ v5 = .slice a (i + m) c ∧ Hid (SpM B0 B1 w2 wr ∧ ∃ lo, Row wr 3 1 a (i + m) c (iC lo) ∧ ∀ k, blk a = some k → (B0 ≤ k ∧ k < B1) ∨ w2.heap.size ≤ k))
              case atStart => exact ⟨0, c1, a1, by omega, by go_num, rfl, HS4⟩
              case round =>
                obtain ⟨m, c, a, hmk, rfl, rfl, HX⟩ := hrel
                clear HS4
                obtain ⟨hM, lo, hR, hB⟩ := HX.out
                by_cases h0 : gk = 0
                · subst h0
                  have hm : m = 9 := by omega
                  subst hm
                  have HS5 := hd hM
                  clear HX hM hR hB hmk
                  go_wp2_with fail
                  go_loopg [16, 134, 135, 136, 137, 138, 139, 140, 141, 142, 143, 144, 145, 146, 147, 148, 149, 150, 151, 152] i (fun k v16 v134 v135 v136 v137 v138 v139 v140 v141 v142 v143 v144 v145 v146 v147 v148 v149 v150 v151 v152 wr => ∃ t : Nat, t + k = i ∧ v16 = .int .i64 (t : Int) ∧ Hid (SpM B0 B1 w2 wr))
                  case atStart => exact ⟨0, by omega, by go_num, HS5⟩
                  case round =>
                    obtain ⟨t, htk, rfl, HX⟩ := hrel
                    clear HS5
                    have hM := HX.out
                    by_cases h0 : gk = 0
                    · subst h0
                      have ht : t = i := by omega
                      subst ht
                      obtain ⟨x0, x1, -, -⟩ := HRX.out wr hM
                      obtain ⟨x2, -⟩ := HRP.out wr hM
                      have hin := ints_b (c1 := c3) (c2 := co) x2 x1 hN (by omega)
                      have HE : Hid (∀ W, Below wr.heap.size wr W → Below w.heap.size w W) := hd (fun W hb => by rw [hB0.out]; exact HFB.out W (hM.below hb))
                      clear HX hM htk HRX HRP x1 x2 HFB
                      go_wp2_with (first | (go_at_call 25; refine hin.mono ?_; rintro e5 w5 ⟨rfl, b5⟩))
                      go_ret
                      exact ⟨rfl, HE.out _ b5⟩
                    · have hlt : t < i := by omega
                      have hMd : SpM B0 B1 w2 wr.drew := hM.below ((Below.refl _ wr).drew)
                      obtain ⟨-, -, x1, xq⟩ := HRX.out wr.drew hMd
                      obtain ⟨g, rfl, x2, xr⟩ := xq t hlt
                      obtain ⟨-, xp⟩ := HRP.out wr.drew hMd
                      obtain ⟨g4, rfl, x3, xr1⟩ := xp t hlt
                      obtain ⟨ln, hLN⟩ : ∃ ln, Hid ((qAt qs t).length = ln) := ⟨_, rfl⟩
                      rw [hLN.out] at x2 x3
                      have hin := ints_b (c1 := (eAt es2 t).2.1) (c2 := (eAt es3 t).2.1) xr1 xr hLN (by rw [← hLN.out]; exact Nat.le_trans (HTQ.out t) (by omega))
                      have HKB : Hid (∀ W, Below wr.drew.heap.size wr.drew W → W.cell? ⟨b2, 1, none⟩ = some (.slice (some ⟨g, 0, none⟩) i cq) ∧ W.cell? ⟨g, t, none⟩ = some (.slice (eAt es3 t).1 ln (eAt es3 t).2.1) ∧ W.cell? ⟨g4, t, none⟩ = some (.slice (eAt es2 t).1 ln (eAt es2 t).2.1) ∧ SpM B0 B1 w2 W) := hd (fun W hb =>
                        ⟨(hb.cell (p := ⟨b2, 1, none⟩) (World.block_lt_of_cell? wr.drew _ x1)).trans x1, (hb.cell (p := ⟨g, t, none⟩) (World.block_lt_of_cell? wr.drew _ x2)).trans x2, (hb.cell (p := ⟨g4, t, none⟩) (World.block_lt_of_cell? wr.drew _ x3)).trans x3, hMd.below hb⟩)
                      have x1' : wr.cell? ⟨b2, 1, none⟩ = some (.slice (some ⟨g, 0, none⟩) i cq) := x1
                      have x2' : wr.cell? ⟨g, t, none⟩ = some (.slice (eAt es3 t).1 ln (eAt es3 t).2.1) := x2
                      have x3' : wr.cell? ⟨g4, t, none⟩ = some (.slice (eAt es2 t).1 ln (eAt es2 t).2.1) := x3
                      clear HX hM hMd xq xp xr xr1 h0 HRX HRP HFB HTQ x1 x2 x3
                      go_upto_region 34 with fail
                      go_region_held3 (fun w' => w'.cell? ⟨b2, 1, none⟩ = some (.slice (some ⟨g, 0, none⟩) i cq) ∧ w'.cell? ⟨g, t, none⟩ = some (.slice (eAt es3 t).1 ln (eAt es3 t).2.1) ∧ w'.cell? ⟨g4, t, none⟩ = some (.slice (eAt es2 t).1 ln (eAt es2 t).2.1)) (go_keep)
                        (first
                          | (go_at_call 25; refine hin.mono ?_; rintro e5 w5 ⟨rfl, b5⟩
                             obtain ⟨k1, k2, k3, k4⟩ := HKB.out w5 b5
                             replace k4 := hd k4
                             clear b5))
                      go_wp2_with fail
                      go_roundg (gk - 1)
                      case rel => exact ⟨t + 1, by omega, by go_num, k4⟩
                      case measure => omega
                · obtain ⟨a', c', w', hap, hR', hM', hN'⟩ := push_any (T := 33) Try.underlying33 infoN rfl hR (by unfold maxLen; omega) (by omega) [.int .i64 (-9)] rfl (by simp [Value.oneCell'])
                  have HE : Hid (SpM B0 B1 w2 w' ∧ ∃ lo, Row w' 3 1 a' (i + (m + 1)) c' (iC lo) ∧ ∀ k, blk a' = some k → (B0 ≤ k ∧ k < B1) ∨ w2.heap.size ≤ k) := hd ⟨Mod.trans hM hM' (fun k hk => hB k hk), lo ++ [-9], by rw [iC_app]; exact hR', fun k hk => by
                    rcases hN' k hk with h | h
                    · exact hB k h
                    · exact .inr (Nat.le_trans (Mod.size hM) h)⟩
                  have hm9 : m < 9 := by omega
                  replace hap := hd hap
                  clear HX hM hR hB hR' hM' hN' HRX HRP HFB HTQ h0
                  go_wp2_with (first | (at_builtin; refine wpList_append_run rfl _ _ _ rfl _ _ _ _ rfl rfl hap.out ?_; clear hap))
                  go_roundg (gk - 1)
                  case rel => exact ⟨m + 1, c', a', by omega, by go_num, rfl, HE⟩
                  case measure => omega
            · have hlt : i < j := by omega
              obtain ⟨go, rfl, x0⟩ := hR.cell i (by omega)
              have x0' : ∃ u, wr.cell? ⟨go, i, none⟩ = some u := by
                have hl := hR.len
                rw [iC_len] at hl
                rw [x0, iC_at lo i (by omega) 0]
                exact ⟨_, rfl⟩
              obtain ⟨u, xu⟩ := x0'
              have xf := hR.free i go rfl
              have HE : Hid (SpM B0 B1 w2 (wr.setCell ⟨go, i, none⟩ (.int .i64 (-9))) ∧ ∃ lo, Row (wr.setCell ⟨go, i, none⟩ (.int .i64 (-9))) 3 1 (some ⟨go, 0, none⟩) j c1 (iC lo)) := hd ⟨Mod.setCell hM (.inl (HOB.out go rfl)) _, lo.set i (-9), by rw [← iC_set]; exact hR.put i _⟩
              clear HX hM hR HRX HRP HFB HTQ x0 h0
              go_wp2_with fail
              go_roundg (gk - 1)
              case rel => exact ⟨i + 1, by omega, by go_num, HE⟩
              case measure => omega
        · have hlt : j < i := by omega
          have hjl : j < es.length := by rw [hS.len]; exact hlt
          obtain ⟨g2, rfl, x1, -⟩ := hS.ql.cell j hjl
          obtain ⟨A, hA⟩ : ∃ A, Hid ((eAt es j).1 = A) := ⟨_, rfl⟩
          obtain ⟨C, hC⟩ : ∃ C, Hid ((eAt es j).2.1 = C) := ⟨_, rfl⟩
          obtain ⟨ln, hLN⟩ : ∃ ln, Hid ((eAt es j).2.2.length = ln) := ⟨_, rfl⟩
          have hln : ln ≤ 6000000000000 := by rw [← hLN.out]; exact hS.small j (Nat.le_refl _) hlt
          have HSA : Hid (∃ es', SpI B0 B1 w2 wr i j a1 c1 (some ⟨g2, 0, none⟩) c2 es' ∧ (eAt es' j).1 = A ∧ (eAt es' j).2.1 = C ∧ (eAt es' j).2.2.length = ln) := hd ⟨es, hS, hA.out, hC.out, hLN.out⟩
          obtain ⟨wo, rfl⟩ : ∃ W, W = wr := ⟨_, rfl⟩
          clear HX hS hjl x1 hA hC hLN HRX HRP HFB HTQ h0
          go_wp2_with fail
          go_loopg [11, 88, 89, 90, 91, 92, 93, 94, 95, 96, 97, 98, 99, 100, 101, 102] ln (fun k v11 v88 v89 v90 v91 v92 v93 v94 v95 v96 v97 v98 v99 v100 v101 v102 wr => ∃ t : Nat, t + k = ln ∧ v11 = .int .i64 (t : Int) ∧ Hid (∃ es', SpI B0 B1 w2 wr i j a1 c1 (some ⟨g2, 0, none⟩) c2 es' ∧ (eAt es' j).1 = A ∧ (eAt es' j).2.1 = C ∧ (eAt es' j).2.2.length = ln))
          case atStart => exact ⟨0, by omega, by go_num, HSA⟩
          case round =>
            obtain ⟨t, htk, rfl, HX⟩ := hrel
            clear HSA
            obtain ⟨es', hS, hA, hC, hLN⟩ := HX.out
            have hjl : j < es'.length := by rw [hS.len]; exact hlt
            obtain ⟨g2', eg, x1, xf⟩ := hS.ql.cell j hjl
            cases eg
            rw [hA, hC, hLN] at x1
            by_cases ht0 : t < ln
            · obtain ⟨gx, ox, hax, cx⟩ := (hS.ql.qs j (Nat.le_refl _) hjl).rd.int t (by rw [hLN]; exact ht0)
              have hq := hS.ql.qs j (Nat.le_refl _) hjl
              unfold Qw at hq
              rw [hax] at hq
              have xf2 := hq.free (ox + t)
              have HE : Hid (∃ es', SpI B0 B1 w2 (wr.setCell ⟨gx, ox + t, none⟩ (.int .i64 (-7))) i j a1 c1 (some ⟨g2, 0, none⟩) c2 es' ∧ (eAt es' j).1 = A ∧ (eAt es' j).2.1 = C ∧ (eAt es' j).2.2.length = ln) := hd ⟨_, hS.poke hlt hax (-7), by rw [eAt_set hjl, if_pos rfl]; exact hA, by rw [eAt_set hjl, if_pos rfl]; exact hC, by rw [eAt_set hjl, if_pos rfl]; simp only [List.length_set]; exact hLN⟩
              rw [← hA, hax] at x1
              generalize (eAt es' j).2.2.getD t 0 = xv at cx
              clear HX hS hjl hA hC hLN hq hax xf
              go_wp2_with fail
              go_roundg (gk - 1)
              case rel => exact ⟨t + 1, by omega, by go_num, HE⟩
              case measure => omega
            · have htl : t = ln := by omega
              subst htl
              have HSB : Hid (∃ es' qg, SpI B0 B1 w2 wr i (j + 1) a1 c1 (some ⟨g2, 0, none⟩) c2 es' ∧ Ro wr 3 A (t + 0) C (iC qg) ∧ ∀ k, blk A = some k → ((B0 ≤ k ∧ k < B1) ∨ w2.heap.size ≤ k) ∧ ¬ qfp (j + 1) (some ⟨g2, 0, none⟩) es' k ∧ blk a1 ≠ some k) := hd (by
                have hq := hS.ql.qs j (Nat.le_refl _) hjl
                unfold Qw at hq
                rw [hA, hC, hLN] at hq
                refine ⟨es', (eAt es' j).2.2, hS.next, hq, fun k hk => ?_⟩
                have hkq : qfp j (some ⟨g2, 0, none⟩) es' k := .inr ⟨j, Nat.le_refl _, hjl, by rw [hA]; exact hk⟩
                refine ⟨.inl (hS.qb k hkq), fun e => ?_, fun e => (hS.ob k e).2.2 hkq⟩
                rcases e with e | ⟨l, l1, l2, e⟩
                · exact (hS.ql.qb j (Nat.le_refl _) hjl k (by rw [hA]; exact hk)).2 e
                · exact hS.ql.qq j l (Nat.le_refl _) (by omega) hjl l2 (by omega) k (by rw [hA]; exact hk) e)
              obtain ⟨wo2, rfl⟩ : ∃ W, W = wr := ⟨_, rfl⟩
              clear HX hS hjl hA hC hLN ht0
              go_wp2_with fail
              go_loopg [12, 13, 107, 108, 109, 110, 111, 112, 113] 9 (fun k v12 v13 v107 v108 v109 v110 v111 v112 v113 wr => ∃ (m c : Nat) (a : Option Addr), m + k = 9 ∧ v13 = .int .i64 (m : Int) ∧ v12 = .slice a (t + m) c ∧ Hid (∃ es' qg, SpI B0 B1 w2 wr i (j + 1) a1 c1 (some ⟨g2, 0, none⟩) c2 es' ∧ Ro wr 3 a (t + m) c (iC qg) ∧ ∀ k, blk a = some k → ((B0 ≤ k ∧ k < B1) ∨ w2.heap.size ≤ k) ∧ ¬ qfp (j + 1) (some ⟨g2, 0, none⟩) es' k ∧ blk a1 ≠ some k))
              case atStart => exact ⟨0, C, A, by omega, by go_num, rfl, HSB⟩
              case round =>
                obtain ⟨m, c, a, hmk, rfl, rfl, HX⟩ := hrel
                clear HSB
                obtain ⟨es', qg, hS, hR, hB⟩ := HX.out
                by_cases hm0 : m < 9
                · obtain ⟨a', c', w', hap, hR', hM', hN'⟩ := hR.push (by omega) (-8)
                  have HE : Hid (∃ es' qg, SpI B0 B1 w2 w' i (j + 1) a1 c1 (some ⟨g2, 0, none⟩) c2 es' ∧ Ro w' 3 a' (t + (m + 1)) c' (iC qg) ∧ ∀ k, blk a' = some k → ((B0 ≤ k ∧ k < B1) ∨ w2.heap.size ≤ k) ∧ ¬ qfp (j + 1) (some ⟨g2, 0, none⟩) es' k ∧ blk a1 ≠ some k) := hd (by
                    refine ⟨es', qg ++ [-8], hS.mod' hM' (fun k hk => (hB k hk).1) (fun k hk => (hB k hk).2), hR', fun k hk => ?_⟩
                    rcases hN' k hk with h | h
                    · exact hB k h
                    · refine ⟨.inr (Nat.le_trans (Mod.size hS.mod) h), fun e => ?_, fun e => ?_⟩
                      · have := hS.ql.lt k e; omega
                      · obtain ⟨lo, hr⟩ := hS.own
                        have := hr.lt k e; omega)
                  replace hap := hd hap
                  clear HX hS hR hB hR' hM' hN' x1 xf
                  go_wp2_with (first | (at_builtin; refine wpList_append_run rfl _ _ _ rfl _ _ _ _ rfl rfl hap.out ?_; clear hap))
                  go_roundg (gk - 1)
                  case rel => exact ⟨m + 1, c', a', by omega, by go_num, rfl, HE⟩
                  case measure => omega
                · have hm9 : m = 9 := by omega
                  subst hm9
                  have hb := below_al wr (.cells #[.int .i64 (-9)] 3)
                  have hSb := hS.below hb
                  obtain ⟨g2', eg, y1, yf⟩ := hSb.ql.cell j (by rw [hSb.len]; exact hlt)
                  cases eg
                  have HE : Hid (∃ es, SpI B0 B1 w2 ((wr.alloc (.cells #[.int .i64 (-9)] 3)).setCell ⟨g2, j, none⟩ (.slice (some ⟨wr.heap.size, 0, none⟩) 1 1)) i (j + 1) a1 c1 (some ⟨g2, 0, none⟩) c2 es) := hd ⟨_, hSb.drop hlt (some ⟨wr.heap.size, 0, none⟩, 1, [-9])⟩
                  obtain ⟨w6, hw6⟩ : ∃ W, Hid (wr.alloc (.cells #[.int .i64 (-9)] 3) = W) := ⟨_, rfl⟩
                  clear HX hS hR hB hb hSb x1 xf hm0
                  go_wp2_with fail
                  go_roundg (i - (j + 1))
                  case rel => exact ⟨j + 1, by omega, by go_num, HE⟩
                  case measure => omega
    · have hlt : i < n := by omega
      have hsp := HSP0.out wr.drew (HBR.out.trans (((Below.refl _ wr).drew).mono HBR.out.size))
      obtain ⟨-, -, x1, xq⟩ := HRX.out wr.drew hsp.mod
      obtain ⟨g, rfl, x2, xr⟩ := xq i hlt
      obtain ⟨g2, rfl, x3, -⟩ := hsp.ql.cell i (by rw [hsp.len]; exact hlt)
      have xr1 := (hsp.ql.qs i (Nat.zero_le _) (by rw [hsp.len]; exact hlt)).rd
      rw [← HQ1.out i] at x3 xr1
      obtain ⟨ln, hLN⟩ : ∃ ln, Hid ((qAt qs i).length = ln) := ⟨_, rfl⟩
      rw [hLN.out] at x2 x3
      have hin := ints_b (c1 := (eAt es1 i).2.1) (c2 := (eAt es3 i).2.1) xr1 xr hLN (by rw [← hLN.out]; exact Nat.le_trans (HTQ.out i) (by omega))
      have HKB : Hid (∀ W, Below wr.drew.heap.size wr.drew W → W.cell? ⟨b2, 1, none⟩ = some (.slice (some ⟨g, 0, none⟩) n cq) ∧ W.cell? ⟨g, i, none⟩ = some (.slice (eAt es3 i).1 ln (eAt es3 i).2.1) ∧ W.cell? ⟨g2, i, none⟩ = some (.slice (eAt es1 i).1 ln (eAt es1 i).2.1) ∧ Below w2.heap.size w2 W) := hd (fun W hb =>
        ⟨(hb.cell (p := ⟨b2, 1, none⟩) (World.block_lt_of_cell? wr.drew _ x1)).trans x1, (hb.cell (p := ⟨g, i, none⟩) (World.block_lt_of_cell? wr.drew _ x2)).trans x2, (hb.cell (p := ⟨g2, i, none⟩) (World.block_lt_of_cell? wr.drew _ x3)).trans x3, (HBR.out.trans (((Below.refl _ wr).drew).mono HBR.out.size)).trans (hb.mono (HBR.out.size))⟩)
      have x1' : wr.cell? ⟨b2, 1, none⟩ = some (.slice (some ⟨g, 0, none⟩) n cq) := x1
      have x2' : wr.cell? ⟨g, i, none⟩ = some (.slice (eAt es3 i).1 ln (eAt es3 i).2.1) := x2
      have x3' : wr.cell? ⟨g2, i, none⟩ = some (.slice (eAt es1 i).1 ln (eAt es1 i).2.1) := x3
      clear HSP0 hsp xq xr xr1 h0 HRX HRP HFB HQ1 HTQ x1 x2 x3 HBR
      go_upto_region 8 with fail
      go_region_held3 (fun w' => w'.cell? ⟨b2, 1, none⟩ = some (.slice (some ⟨g, 0, none⟩) n cq) ∧ w'.cell? ⟨g, i, none⟩ = some (.slice (eAt es3 i).1 ln (eAt es3 i).2.1) ∧ w'.cell? ⟨g2, i, none⟩ = some (.slice (eAt es1 i).1 ln (eAt es1 i).2.1)) (go_keep)
        (first
          | (go_at_call 25; refine hin.mono ?_; rintro e5 w5 ⟨rfl, b5⟩
             obtain ⟨k1, k2, k3, k4⟩ := HKB.out w5 b5
             replace k4 := hd k4
             clear b5))
      go_wp2_with fail
      go_roundg (gk - 1)
      case rel => exact ⟨i + 1, by omega, by go_num, k4⟩
      case measure => omega
end Go.Proofs.Ytdihbbpndijdoaa
