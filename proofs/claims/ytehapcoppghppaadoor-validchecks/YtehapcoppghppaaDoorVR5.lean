/- The document's side: Holds, looked, Longest, Check. -/
import Derived.Test.YtehapcoppghppaaDoorVR4
import Derived.Test.YtehapcoppghppaaDoorVW6
import Derived.Deep.DeepCutAuto
namespace Go.Proofs.YtehapcoppghppaaDoor
open Go.RowKit

/-- 'make' of so many, as an equation. -/
theorem make_eq (t e : TypeId) (z : Value) (size bytes : Nat) (ht : Tryd.prog.underlying t = some (.slice e)) (hi : (Tryd.prog.info? e).map (fun i => (i.zero, i.size, i.bytes)) = some (some z, size, bytes)) (n : Nat) (hb : bytes * n ≤ 281474976710656) (h63 : n ≤ maxLen) (W : World) :
    (Instr.makeSlice t (.int .i64 (n : Int)) (.int .i64 (n : Int))).run Tryd.prog W = .ok (.slice (some ⟨W.heap.size, 0, none⟩) n n) (W.alloc (.cells (madeCells z.cells (n * size)) e)) := by
  obtain ⟨i, h1, h2, h3, h4⟩ := info_parts hi
  subst h3 h4
  have h63' : (n : Int) ≤ 9223372036854775807 := by
    have h := h63
    simp [maxLen] at h
    omega
  have hb' : (i.bytes : Int) * (n : Int) ≤ 281474976710656 := by
    have h : ((i.bytes * n : Nat) : Int) ≤ 281474976710656 := by omega
    rwa [Int.natCast_mul] at h
  have hr := run_make (P := Tryd.prog) W t e i z ht h1 h2 .i64 .i64 n n (by omega) (Int.le_refl _) hb' h63'
  simp only [Int.toNat_natCast] at hr
  exact hr

open Classical in
/-- The units of the hold that begins at a place, as the document's answer has them. -/
noncomputable def hv (l : List Ins) (p : Nat) : Int := if isH l p then cv l (st1 l p) else 0

/-- What Holds has in hand. -/
structure HR (w wr : World) (a : Option Addr) (N cap g gout gr gl go M : Nat) (f : Nat → Bool) (G H : Nat → Int) : Prop where
  us : US w wr a N cap gr gl go M G (fun _ => false)
  met : Arr wr w.heap.size g 4 M (fun j => .bool (f j))
  out : Arr wr w.heap.size gout 3 N (iF H)
  n1 : g ≠ gl ∧ g ≠ go
  n2 : gout ≠ gl ∧ gout ≠ go ∧ gout ≠ gr ∧ gout ≠ g

section
variable {w wr w' : World} {a : Option Addr} {N cap g gout gr gl go M : Nat} {f : Nat → Bool} {G G' H : Nat → Int}
theorem HR.units (h : HR w wr a N cap g gout gr gl go M f G H) (hu : US w w' a N cap gr gl go M G' (fun _ => false)) (hg : G2 wr w' gl go) : HR w w' a N cap g gout gr gl go M f G' H :=
  ⟨hu, owns_G2 h.met hg (fun b hb => by cases hb; exact h.n1), owns_G2 h.out hg (fun b hb => by cases hb; exact ⟨h.n2.1, h.n2.2.1⟩), h.n1, h.n2⟩
theorem HR.put (h : HR w wr a N cap g gout gr gl go M f G H) (t : Nat) (x : Int) : HR w (wr.setCell ⟨gout, t, none⟩ (.int .i64 x)) a N cap g gout gr gl go M f G (upd H t x) := by
  obtain ⟨h1, h2⟩ := h.out.put t (.int .i64 x)
  obtain ⟨c0, c1, c2, hl, ho, d1, d2, d3, hb⟩ := h.us
  have hr : some gr ≠ some gout := fun e => h.n2.2.2.1 (Option.some.inj e).symm
  refine ⟨⟨h2.cell c0 hr, h2.cell c1 hr, h2.cell c2 hr, hl.grown h2 (fun e => h.n2.1 (Option.some.inj e)), ho.grown h2 (fun e => h.n2.2.1 (Option.some.inj e)), d1, d2, d3, hb.setCell h.out.lt.1 _⟩, h.met.grown h2 (fun e => h.n2.2.2.2 (Option.some.inj e)), h1.ext fun i _ => ?_, h.n1, h.n2⟩
  unfold iF upd
  by_cases e : i = t
  · simp [e]
  · simp [e]
end

theorem made_int (w : World) (B M : Nat) (hB : B ≤ w.heap.size) (hm : M ≤ maxLen) : Arr (w.alloc (.cells (madeCells (Value.int .i64 0).cells (M * 1)) 3)) B w.heap.size 3 M (iF fun _ => 0) := by
  have := World.ownsRow_lit (base := B) (e := 3) (size := 1) w (madeCells (Value.int .i64 0).cells (M * 1)) M hB hm (size_madeCells _ _)
  rw [made_arr (.int .i64 0) rfl M] at this
  exact this
theorem made_bool (w : World) (B M : Nat) (hB : B ≤ w.heap.size) (hm : M ≤ maxLen) : Arr (w.alloc (.cells (madeCells (Value.bool false).cells (M * 1)) 4)) B w.heap.size 4 M (fun _ => .bool false) := by
  have := World.ownsRow_lit (base := B) (e := 4) (size := 1) w (madeCells (Value.bool false).cells (M * 1)) M hB hm (size_madeCells _ _)
  rw [made_arr (.bool false) rfl M] at this
  exact this
theorem below_alloc (w : World) (o : Obj) : Below w.heap.size w (w.alloc o) := (Below.refl _ _).alloc (Nat.le_refl _) o

/-- What Holds tells. -/
def HoPost (w : World) (l : List Ins) (e : Ending) (w' : World) : Prop := ∃ g, e = .returned (.slice (some ⟨g, 0, none⟩) l.length l.length) ∧ Arr w' w.heap.size g 3 l.length (iF (hv l)) ∧ Below w.heap.size w w'

set_option maxRecDepth 100000 in
set_option maxHeartbeats 4000000 in
theorem rholds_any (a : Option Addr) (cap : Nat) (l : List Ins) (w : World) (hP : Prg w a l) (ok : Ok l) (hW : ∀ n, Rch l n → wrE l n = 0) :
    Calls Tryd.prog 17 #[.slice a l.length cap] w (HoPost w l) := by
  obtain ⟨i1, hi1, hy0, hy1, hy2⟩ := info_parts infoI
  have HP : Hid (Prg w a l) := hP
  have HO : Hid (Ok l) := ok
  have HW : Hid (∀ n, Rch l n → wrE l n = 0) := hW
  have hAl := all_any a cap l w hP ok
  have hl256 := ok.len
  have hUn := fun (gr gl go M : Nat) (hM : 256 * (l.length + 1) = M) => units_any w a cap l gr gl go M HP.out HO.out hM
  obtain ⟨Q, hQ⟩ : ∃ Q, Hid (HoPost w l = Q) := ⟨_, rfl⟩
  rw [hQ.out]
  obtain ⟨N, hN⟩ : ∃ N, Hid (l.length = N) := ⟨_, rfl⟩
  unfold APost at hAl
  unfold UPost at hUn
  rw [hN.out] at hAl hl256 hUn ⊢
  obtain ⟨M, hM⟩ : ∃ M, Hid (256 * (N + 1) = M) := ⟨_, rfl⟩
  rw [hM.out] at hAl
  have hM1 : M ≤ 70000 := by have := hM.out; omega
  have hM47 : M ≤ maxLen := by unfold maxLen; omega
  have hUn := fun (gr gl go : Nat) => hUn gr gl go M hM.out
  obtain ⟨oI, hoI⟩ : ∃ oI, Hid (Obj.cells (madeCells (Value.int .i64 0).cells (M * 1)) 3 = oI) := ⟨_, rfl⟩
  obtain ⟨oB, hoB⟩ : ∃ oB, Hid (Obj.cells (madeCells (Value.bool false).cells (M * 1)) 4 = oB) := ⟨_, rfl⟩
  have hmI := fun W => make_eq 46 3 (.int .i64 0) 1 8 Tryd.underlying46 infoI M (by omega) (by unfold maxLen; omega) W
  have hmB := fun W => make_eq 34 4 (.bool false) 1 1 Tryd.underlying34 infoB M (by omega) (by unfold maxLen; omega) W
  have hAI := fun (W : World) (hB : w.heap.size ≤ W.heap.size) => made_int W w.heap.size M hB hM47
  have hAB := fun (W : World) (hB : w.heap.size ≤ W.heap.size) => made_bool W w.heap.size M hB hM47
  rw [hoI.out] at hmI hAI
  rw [hoB.out] at hmB hAB
  have HAI := hd hAI
  have HAB := hd hAB
  clear hP ok hW hAI hAB
  go_enter Tryd.func17, Tryd.ntmps17
  go_upto_region 2 with (go_at_call 24; refine hAl.mono ?_; rintro e1 w1 ⟨g, f, hf, rfl, hA, b1⟩)
  have HF : Hid (∀ n, f n = true ↔ Rch l n) := hd hf
  have HA : Hid (Arr w1 w.heap.size g 4 M (fun j => .bool (f j))) := hd hA
  have HB1 : Hid (Below w.heap.size w w1) := hd b1
  clear hf hA b1 hAl
  go_cut [4] (fun v4 wy => ∃ gr gl go : Nat, v4 = .pointer (some ⟨gr, 0, none⟩) ∧ Hid (US w wy a N cap gr gl go M (fun _ => 0) (fun _ => false) ∧ Arr wy w.heap.size g 4 M (fun j => .bool (f j)) ∧ g ≠ gl ∧ g ≠ go))
  case first =>
    have hgl := HA.out.lt.2
    have hs1 := HB1.out.size
    go_region
    · go_wp2_with fail
      go_meet
      case rel =>
        have b2 := below_alloc w1 oI
        have b3 := below_alloc (w1.alloc oI) oB
        have b4 := below_alloc ((w1.alloc oI).alloc oB) (.cells #[.slice a N cap, .slice (some ⟨w1.heap.size, 0, none⟩) M M, .slice (some ⟨w1.heap.size + 1, 0, none⟩) M M] 59)
        have hh := heap_alloc_new ((w1.alloc oI).alloc oB) (.cells #[.slice a N cap, .slice (some ⟨w1.heap.size, 0, none⟩) M M, .slice (some ⟨w1.heap.size + 1, 0, none⟩) M M] 59)
        have e2 : (w1.alloc oI).heap.size = w1.heap.size + 1 := by simp
        have e3 : ((w1.alloc oI).alloc oB).heap.size = w1.heap.size + 1 + 1 := by simp
        rw [e3] at hh
        have q1 := HAI.out w1 hs1
        have q2 := HAB.out (w1.alloc oI) (by omega)
        rw [e2] at q2
        refine ⟨w1.heap.size + 1 + 1, w1.heap.size, w1.heap.size + 1, rfl, hd ⟨⟨?_, ?_, ?_, (q1.kept b3).kept b4.drew, q2.kept b4.drew, by omega, by omega, by omega, ?_⟩, (((HA.out.kept b2).kept b3).kept b4.drew), by omega, by omega⟩⟩
        · exact (cell_of_row _ _ _ _ _ _ hh).trans rfl
        · exact (cell_of_row _ _ _ _ _ _ hh).trans rfl
        · exact (cell_of_row _ _ _ _ _ _ hh).trans rfl
        · have B2 := HB1.out.trans (b2.mono HB1.out.size)
          have B3 := B2.trans (b3.mono B2.size)
          exact (B3.trans (b4.mono B3.size)).drew
    · go_wp2_with fail
      go_meet
      case rel =>
        have b2 := below_alloc w1 oB
        have b3 := below_alloc (w1.alloc oB) oI
        have b4 := below_alloc ((w1.alloc oB).alloc oI) (.cells #[.slice a N cap, .slice (some ⟨w1.heap.size + 1, 0, none⟩) M M, .slice (some ⟨w1.heap.size, 0, none⟩) M M] 59)
        have hh := heap_alloc_new ((w1.alloc oB).alloc oI) (.cells #[.slice a N cap, .slice (some ⟨w1.heap.size + 1, 0, none⟩) M M, .slice (some ⟨w1.heap.size, 0, none⟩) M M] 59)
        have e2 : (w1.alloc oB).heap.size = w1.heap.size + 1 := by simp
        have e3 : ((w1.alloc oB).alloc oI).heap.size = w1.heap.size + 1 + 1 := by simp
        rw [e3] at hh
        have q1 := HAB.out w1 hs1
        have q2 := HAI.out (w1.alloc oB) (by omega)
        rw [e2] at q2
        refine ⟨w1.heap.size + 1 + 1, w1.heap.size + 1, w1.heap.size, rfl, hd ⟨⟨?_, ?_, ?_, q2.kept b4.drew, (q1.kept b3).kept b4.drew, by omega, by omega, by omega, ?_⟩, (((HA.out.kept b2).kept b3).kept b4.drew), by omega, by omega⟩⟩
        · exact (cell_of_row _ _ _ _ _ _ hh).trans rfl
        · exact (cell_of_row _ _ _ _ _ _ hh).trans rfl
        · exact (cell_of_row _ _ _ _ _ _ hh).trans rfl
        · have B2 := HB1.out.trans (b2.mono HB1.out.size)
          have B3 := B2.trans (b3.mono B2.size)
          exact (B3.trans (b4.mono B3.size)).drew
  case rest =>
    obtain ⟨gr, gl, go, rfl, HC⟩ := hcut
    obtain ⟨u1, m1, n1, n2⟩ := HC.out
    have hb2 := u1.bel.size
    have hn47 : N ≤ maxLen := by unfold maxLen; omega
    go_upto_region 4 with (refine wpList_make_full _ rfl _ _ 46 rfl w.heap.size 3 i1 (.int .i64 0) 1 Tryd.underlying46 hi1 hy0 hy1 .i64 .i64 _ _ N rfl rfl rfl rfl (by rw [hy2]; omega) hn47 hb2 ?_; intro w3 ho3 hg3)
    rw [made_arr (.int .i64 0) rfl N] at ho3
    have b3 : Below wc.heap.size wc w3 := (Below.refl _ _).grown hg3 (Nat.le_refl _) (fun k hk => by cases hk)
    have HR0 : Hid (HR w w3 a N cap g wc.heap.size gr gl go M f (fun _ => 0) (fun _ => 0)) := hd (by
      have h1 := u1.long.lt.2
      have h2 := u1.on.lt.2
      have h3 := m1.lt.2
      have h4 := World.block_lt_of_cell? wc _ u1.c0
      simp only at h4
      exact ⟨u1.after b3, m1.kept b3, ho3, ⟨n1, n2⟩, by omega, by omega, by omega, by omega⟩)
    obtain ⟨gout, hgo⟩ : ∃ gout, Hid (wc.heap.size = gout) := ⟨_, rfl⟩
    rw [hgo.out] at HR0 ⊢
    clear u1 m1 n1 n2 hb2 ho3 hg3 b3 HC hmI hmB hi1 hy0 hy1 hy2 HAI HAB HA hoI hoB
    go_wp2_with fail
    go_loopg [6] N (fun k v6 wr => ∃ (i : Nat) (G : Nat → Int), v6 = .int .i64 (i : Int) ∧ i + k = N ∧ Hid (HR w wr a N cap g gout gr gl go M f G (fun p => if p < i then hv l p else 0) ∧ LI l G))
    case atStart => exact ⟨0, fun _ => 0, rfl, by omega, hd ⟨HR0.out, fun i h => absurd rfl h⟩⟩
    case round =>
      obtain ⟨i, G, rfl, hik, HH⟩ := hrel
      clear HR0
      by_cases hlt : i < N
      · have hlt' : (i : Int) < (N : Int) := by omega
        obtain ⟨b, off, rfl, hx⟩ := HP.out i (by rw [hN.out]; exact hlt)
        have hx := hx.kept HH.out.1.us.bel
        have hSt : Calls Tryd.prog 25 #[.int .i64 (i : Int), .int .i64 0] wr fun e w' => e = .returned (.int .i64 ((256 * i : Nat) : Int)) ∧ w' = wr := stand_any i 0 wr (by omega) (by omega)
        have hcM : 256 * i < M := by have := hM.out; omega
        have hh' : Hid (isH l i ↔ (l.getD i default).op = 29 ∧ f (256 * i) = true) := hd (by unfold isH; rw [HF.out])
        have HIm : Hid ((l.getD i default).op = 29 → ∃ k : Nat, k < 8 ∧ (l.getD i default).imm = k) := hd (fun h => HO.out.imm (by rw [hN.out]; exact hlt) (.inl h))
        have hst : Hid (∀ k : Nat, (l.getD i default).imm = k → st1 l i = 256 * (i + 1) + 2 ^ k) := hd (fun k hk => by unfold st1; rw [hk, Int.toNat_natCast])
        obtain ⟨cu, hcu⟩ : ∃ cu, Hid (256 * i = cu) := ⟨_, rfl⟩
        rw [hcu.out] at hSt hcM hh'
        have hcM' : (cu : Int) < (M : Int) := by omega
        have cs := HH.out.1.met.cell cu hcM
        obtain ⟨k0, k1, k2, k3, k4⟩ := hx
        generalize l.getD i default = X at *
        have HNo : Hid (¬ isH l i → HR w wr (some ⟨b, off, none⟩) N cap g gout gr gl go M f G (fun p => if p < i + 1 then hv l p else 0)) := hd (fun hno => by
          have h1 := HH.out.1
          refine ⟨h1.us, h1.met, h1.out.ext fun p _ => ?_, h1.n1, h1.n2⟩
          unfold iF
          simp only
          by_cases e : p = i
          · rw [e, if_neg (by omega), if_pos (by omega)]
            unfold hv
            rw [if_neg hno]
          · by_cases e2 : p < i
            · rw [if_pos e2, if_pos (by omega)]
            · rw [if_neg e2, if_neg (by omega)])
        by_cases hfc : f cu = true
        · rw [hfc] at cs
          by_cases h29 : X.op = 29
          · have HH' : Hid (isH l i) := hd (hh'.out.mpr ⟨h29, hfc⟩)
            obtain ⟨q, hq8, hqi⟩ := HIm.out h29
            have hr2 := hst.out q hqi
            rw [hqi] at k4
            rw [h29] at k0
            have hpw := pow8 q hq8
            have hT8 : 2 ^ q < 256 := Nat.pow_lt_pow_right (by decide) hq8
            have hTp : 0 < 2 ^ q := Nat.two_pow_pos q
            obtain ⟨T, hT⟩ : ∃ T : Nat, Hid (2 ^ q = T) := ⟨2 ^ q, hd rfl⟩
            rw [hT.out] at hpw hr2 hT8 hTp
            have HPW := hd hpw
            clear hpw hqi
            have hSu := stand_any (i + 1) T wr (by omega) (by omega)
            have hcM2 : 256 * (i + 1) + T < M := by have := hM.out; omega
            have hmod : (256 * (i + 1) + T) % 256 = T := by omega
            have hUc := hUn gr gl go M (256 * (i + 1) + T) G (fun _ => false) wr (left_le _ _) HH.out.1.us HH.out.2 hcM2 (fun _ i hi => by cases hi)
            rw [hmod, if_neg (by omega)] at hUc
            have HV : Hid (cv l (256 * (i + 1) + T) = hv l i) := hd (by unfold hv; rw [if_pos HH'.out, hr2])
            rw [HV.out] at hUc
            obtain ⟨ct, hct⟩ : ∃ ct, Hid (256 * (i + 1) + T = ct) := ⟨_, rfl⟩
            rw [hct.out] at hSu hUc
            simp only [Int.natCast_add, Int.natCast_one] at hSu
            have hclo := HH.out.1.out.cell i hlt
            have hfr := HH.out.1.out.free i
            obtain ⟨V, hV⟩ : ∃ V, Hid (hv l i = V) := ⟨_, rfl⟩
            rw [hV.out] at hUc
            have hpw := HPW.out
            clear hr2 h29 hst HIm hh' hmod HNo
            go_wp2_with (first
              | (go_at_call 25; first | (with_reducible refine hSt.mono ?_; rintro e4 w4 ⟨rfl, rfl⟩) | (with_reducible refine hSu.mono ?_; rintro e5 w5 ⟨rfl, rfl⟩))
              | (go_at_call 26; refine hUc.mono ?_; rintro e6 w6 ⟨G', rfl, u6, l6, g6⟩; have HR6 := hd (HH.out.1.units u6 g6); have cso := HR6.out.out.cell i hlt; have fro := HR6.out.out.free i; unfold iF at cso))
            have HRF : Hid (HR w (w6.setCell ⟨gout, i, none⟩ (.int .i64 V)) (some ⟨b, off, none⟩) N cap g gout gr gl go M f G' (fun p => if p < i + 1 then hv l p else 0)) := hd (by
              have h1 := HR6.out.put i V
              refine ⟨h1.us, h1.met, h1.out.ext fun p _ => ?_, h1.n1, h1.n2⟩
              unfold iF upd
              simp only
              by_cases e : p = i
              · rw [if_pos e, if_pos (by omega), e, hV.out]
              · rw [if_neg e]
                by_cases e2 : p < i
                · rw [if_pos e2, if_pos (by omega)]
                · rw [if_neg e2, if_neg (by omega)])
            go_roundg (gk - 1)
            case measure => omega
            case rel => exact ⟨i + 1, G', by go_num, by omega, hd ⟨HRF.out, l6⟩⟩
          · have d29 : (X.op == 29) = false := by simpa using h29
            have HN1 := hd (HNo.out (fun h => h29 (hh'.out.mp h).1))
            clear h29 HNo hh'
            go_wp2_with (go_at_call 25; refine hSt.mono ?_; rintro e4 w4 ⟨rfl, rfl⟩)
            go_roundg (gk - 1)
            case measure => omega
            case rel => exact ⟨i + 1, G, by go_num, by omega, hd ⟨HN1.out, HH.out.2⟩⟩
        · have hff : f cu = false := by simpa using hfc
          rw [hff] at cs
          have HN1 := hd (HNo.out (fun h => hfc (hh'.out.mp h).2))
          clear HNo hh'
          go_wp2_with (go_at_call 25; refine hSt.mono ?_; rintro e4 w4 ⟨rfl, rfl⟩)
          go_roundg (gk - 1)
          case measure => omega
          case rel => exact ⟨i + 1, G, by go_num, by omega, hd ⟨HN1.out, HH.out.2⟩⟩
      · have hltd : decide ((i : Int) < (N : Int)) = false := by simp; omega
        have HE : Hid (Q (.returned (.slice (some ⟨gout, 0, none⟩) N N)) wr) := hd (by
          obtain rfl : i = N := by omega
          rw [← hQ.out]
          refine ⟨gout, by rw [hN.out], ?_, HH.out.1.us.bel⟩
          rw [hN.out]
          refine HH.out.1.out.ext fun p hp => ?_
          unfold iF
          simp only
          rw [if_pos hp])
        go_wp2_with fail
        exact HE.out

theorem er_zero {l : List Ins} {k : Int} (h : (erL l k).1 = 0) : (mayL l k).1 = 0 ∧ Ok l ∧ (∀ n, Rch l n → wrE l n = 0) ∧ erL l k = (0, 0) := by
  by_cases hm : (mayL l k).1 = 0
  · obtain ⟨ok, _⟩ := ok_of_may hm
    have hr : ∀ n, Rch l n → wrE l n = 0 := by
      have key : ∀ N n, n / 256 < N → Rch l n → wrE l n ≠ 0 → False := by
        intro N
        induction N with
        | zero => intro n hn; omega
        | succ N ih =>
          intro n hn hr hne
          by_cases hmin : ∀ m, Rch l m → wrE l m ≠ 0 → n / 256 ≤ m / 256
          · have := erL_wrong hm (e := wrE l n) (p := n / 256) ⟨⟨n, hr, rfl, rfl⟩, hne, hmin⟩
            rw [this] at h
            exact hne h
          · refine hmin fun m hm' hwm => Nat.le_of_not_lt fun hlt => ih m (by omega) hm' hwm
      exact fun n hn => Classical.byContradiction fun h => key (n / 256 + 1) n (by omega) hn h
    exact ⟨hm, ok, hr, erL_ok hm hr⟩
  · rw [erL_may hm] at h
    exact absurd h hm

set_option maxRecDepth 100000 in
set_option maxHeartbeats 4000000 in
theorem looked_any (a : Option Addr) (cap : Nat) (l : List Ins) (k : Int) (w : World) (hP : Prg w a l) :
    Calls Tryd.prog 16 #[.slice a l.length cap, .int .i64 k] w fun e w' => e = .returned (.tuple #[.int .i64 (erL l k).1, .int .i64 (erL l k).2]) ∧ Below w.heap.size w w' := by
  have hMy := rmay_any a cap l k w hP
  by_cases hm : (mayL l k).1 = 0
  · obtain ⟨ok, _, _, em, _⟩ := ok_of_may hm
    rw [em] at hMy
    have HP : Hid (Prg w a l) := hP
    have HO : Hid (Ok l) := ok
    have hAl := fun (W : World) (h : Below w.heap.size w W) => all_any a cap l W (HP.out.kept h) HO.out
    have hFi := fun (g B : Nat) (f : Nat → Bool) (W : World) (h : Below w.heap.size w W) (hf : ∀ n, f n = true ↔ Rch l n) (hA : Arr W B g 4 (256 * (l.length + 1)) (fun j => .bool (f j))) => first_any a cap l g B (256 * (l.length + 1)) f W (HP.out.kept h) HO.out rfl hf hA
    have HM : Hid ((mayL l k).1 = 0) := hm
    obtain ⟨R, hR⟩ : ∃ R, Hid (erL l k = R) := ⟨_, rfl⟩
    rw [hR.out]
    clear hP ok hm em
    go_enter Tryd.func16, Tryd.ntmps16
    go_wp2_with (first
      | (go_at_call 22; refine hMy.mono ?_; rintro e1 w1 ⟨rfl, b1⟩)
      | (go_at_call 24; refine (hAl _ b1).mono ?_; rintro e2 w2 ⟨g, f, hf, rfl, hA, b2⟩; replace b2 := b1.trans (b2.mono b1.size))
      | (go_at_call 23; refine (hFi g _ f _ b2 hf hA).mono ?_; rintro e3 w3 ⟨⟨hW, rfl⟩ | ⟨er, p, hW, rfl⟩, b3⟩ <;> replace b3 := b2.trans (b3.mono b2.size)))
    · go_ret2
      exact ⟨by rw [← hR.out, erL_ok HM.out hW]; rfl, b3⟩
    · go_ret2
      exact ⟨by rw [← hR.out, erL_wrong HM.out hW]; rfl, b3⟩
  · rw [erL_may hm]
    generalize mayL l k = R at *
    have d0 : (R.1 != 0) = true := by simpa using hm
    clear hP hm
    go_enter Tryd.func16, Tryd.ntmps16
    go_wp2_with (go_at_call 22; refine hMy.mono ?_; rintro e1 w1 ⟨rfl, b1⟩)
    go_ret2
    exact ⟨rfl, b1⟩

/-- The holds from a place on. -/
noncomputable def spU (l : List Ins) : Nat → Nat → List (Nat × Int)
  | 0, _ => []
  | k + 1, p => spF l p ++ spU l k (p + 1)
theorem spU_all (l : List Ins) : ∀ k p, spT l p ++ spU l k p = spT l (p + k)
  | 0, p => by simp [spU]
  | k + 1, p => by
    have := spU_all l k (p + 1)
    show spT l p ++ (spF l p ++ spU l k (p + 1)) = _
    rw [← List.append_assoc]
    have e : spT l p ++ spF l p = spT l (p + 1) := rfl
    rw [e, this, show p + 1 + k = p + (k + 1) by omega]
theorem spU_zero (l : List Ins) : spL l = spU l l.length 0 := by
  have := spU_all l l.length 0
  rw [Nat.zero_add] at this
  exact this.symm

/-- One place more. -/
theorem lng_hv {l : List Ins} (p k : Nat) (z : Int) (hz : 0 ≤ z) : lng z (spU l (k + 1) p) = if hv l p < 0 then (0, 15, (p : Int)) else lng (max z (hv l p)) (spU l k (p + 1)) := by
  show lng z (spF l p ++ spU l k (p + 1)) = _
  unfold hv spF
  by_cases h : isH l p
  · rw [if_pos h, if_pos h]
    show lng z ((p, un l (st1 l p)) :: spU l k (p + 1)) = _
    rw [lng]
    by_cases hu : un l (st1 l p) = INF
    · rw [if_pos hu, cv_inf hu, if_pos (by decide)]
    · have := un_pos l (st1 l p)
      rw [if_neg hu, cv_fin hu, if_neg (by omega)]
  · rw [if_neg h, if_neg h, if_neg (by omega), show max z 0 = z by omega]
    rfl
theorem chk_hv {l : List Ins} (p k : Nat) (h : Int) (h0 : 0 ≤ h) (h64 : h ≤ 64) : chk (spU l (k + 1) p) h = if hv l p < 0 ∨ h < hv l p then (15, (p : Int)) else chk (spU l k (p + 1)) h := by
  show chk (spF l p ++ spU l k (p + 1)) h = _
  unfold hv spF
  by_cases hh : isH l p
  · rw [if_pos hh, if_pos hh]
    show chk ((p, un l (st1 l p)) :: spU l k (p + 1)) h = _
    rw [chk]
    by_cases hu : un l (st1 l p) = INF
    · rw [cv_inf hu, hu, if_pos (by unfold INF; omega), if_pos (by omega)]
    · have := un_pos l (st1 l p)
      rw [cv_fin hu]
      by_cases h1 : h < un l (st1 l p)
      · rw [if_pos h1, if_pos (.inr h1)]
      · rw [if_neg h1, if_neg (by omega)]
  · rw [if_neg hh, if_neg hh, if_neg (by omega)]
    rfl
end Go.Proofs.YtehapcoppghppaaDoor
