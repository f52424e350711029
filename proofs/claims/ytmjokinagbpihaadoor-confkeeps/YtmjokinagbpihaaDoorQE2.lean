/- Encode. -/
import Derived.Test.YtmjokinagbpihaaDoorGCc
import Derived.Test.YtmjokinagbpihaaDoorQE1
namespace Go.Proofs.YtmjokinagbpihaaDoor
open Go.RowKit

theorem numB_one (u : Nat) : numB 1 u = [u % 256] := by simp [numB]
theorem take_flat {α : Type} [Inhabited α] (f : α → List Nat) (l : List α) (i : Nat) (h : i < l.length) : (l.take (i + 1)).flatMap f = (l.take i).flatMap f ++ f (l.getD i default) := by
  rw [List.take_add_one, List.flatMap_append, List.getD_eq_getElem?_getD, List.getElem?_eq_getElem h]
  simp
/-- The numbers, so many of them. -/
def nmB (c : Cfg) : Nat → List Nat
  | 0 => []
  | 1 => numB 2 (u64 c.fuel)
  | 2 => numB 2 (u64 c.fuel) ++ numB 1 (u64 c.lane)
  | 3 => numB 2 (u64 c.fuel) ++ numB 1 (u64 c.lane) ++ numB 1 (u64 c.locks)
  | _ => numB 2 (u64 c.fuel) ++ numB 1 (u64 c.lane) ++ numB 1 (u64 c.locks) ++ numB 2 (u64 c.log)
/-- The bytes up to the labels, the table, the numbers, the processes. -/
def eL (c : Cfg) (i : Nat) : List Nat := (hdB ++ [c.labels.length]) ++ (c.labels.take i).flatMap (numB 8)
def eT (c : Cfg) (i : Nat) : List Nat := (eL c c.labels.length ++ [c.table.length]) ++ (c.table.take i).flatMap (fun x => numB 1 (u64 x))
def eN (c : Cfg) (i : Nat) : List Nat := eT c c.table.length ++ nmB c i
def eP (c : Cfg) (i : Nat) : List Nat := (eN c 4 ++ [c.procs.length]) ++ (c.procs.take i).flatMap prB
theorem eP_all (c : Cfg) (h : (mayC c).1 = 0) : eP c c.procs.length = encC c := by
  obtain ⟨h0, h1, -, -, -, -, h6, -⟩ := (mayC_iff c).1 h
  have l1 := lab_len h0
  have l2 := tab_len h1
  have l3 := cnt_len h6
  unfold eP eN eT eL nmB encC
  rw [List.take_length, List.take_length, List.take_length, numB_one c.labels.length, numB_one c.table.length, numB_one c.procs.length, Nat.mod_eq_of_lt (show c.labels.length < 256 by omega), Nat.mod_eq_of_lt (show c.table.length < 256 by omega), Nat.mod_eq_of_lt (show c.procs.length < 256 by omega)]
  simp only [List.append_assoc]
theorem pre_len {α : Type} [Inhabited α] (f : α → List Nat) (l : List α) (i : Nat) : ((l.take i).flatMap f).length ≤ (l.flatMap f).length := by
  conv => rhs; rw [← List.take_append_drop i l]
  rw [List.flatMap_append, List.length_append]
  omega
theorem eP_len (c : Cfg) (h : (mayC c).1 = 0) (i : Nat) : (eP c i).length ≤ 98542 := by
  have h1 := enc_len c h
  rw [← eP_all c h] at h1
  have h2 := pre_len prB c.procs i
  unfold eP at h1 ⊢
  rw [List.take_length] at h1
  rw [List.length_append] at h1 ⊢
  omega
theorem eN_len (c : Cfg) (h : (mayC c).1 = 0) (i : Nat) : (eN c i).length ≤ 98542 := by
  have h1 := eP_len c h 0
  unfold eP at h1
  rw [List.length_append, List.length_append] at h1
  have h3 : (nmB c i).length ≤ (nmB c 4).length := by
    match i with
    | 0 => simp [nmB]
    | 1 => simp [nmB, numB_len]
    | 2 => simp [nmB, numB_len]
    | 3 => simp [nmB, numB_len]
    | n + 4 => simp [nmB]
  unfold eN at h1 ⊢
  rw [List.length_append] at h1 ⊢
  omega
theorem eT_len (c : Cfg) (h : (mayC c).1 = 0) (i : Nat) : (eT c i).length ≤ 98542 := by
  have h1 := eN_len c h 0
  have h2 := pre_len (fun x => numB 1 (u64 x)) c.table i
  unfold eN at h1
  rw [List.length_append] at h1
  unfold eT at h1 ⊢
  rw [List.take_length] at h1
  rw [List.length_append] at h1 ⊢
  omega
theorem eL_len (c : Cfg) (h : (mayC c).1 = 0) (i : Nat) : (eL c i).length ≤ 98542 := by
  have h1 := eT_len c h 0
  have h2 := pre_len (numB 8) c.labels i
  unfold eT at h1
  rw [List.length_append, List.length_append] at h1
  unfold eL at h1 ⊢
  rw [List.take_length] at h1
  rw [List.length_append] at h1 ⊢
  omega

/-- What Encode leaves. -/
def EncOut (w : World) (c : Cfg) (e : Ending) (w' : World) : Prop :=
  ∃ a' c', e = .returned (.tuple #[.slice a' (encC c).length c', .int .i64 0]) ∧ Row w' 5 1 a' (encC c).length c' (bCells (encC c)) ∧ (∀ k, blk a' = some k → w.heap.size ≤ k) ∧ Below w.heap.size w w'

set_option maxRecDepth 100000 in
set_option maxHeartbeats 2000000 in
theorem cenc_no (c : Cfg) (g : Loc) (w : World) (hR : CfR w c g) (hF : Fld w) (hL : Lim w) (hm : (mayC c).1 ≠ 0) :
    Calls Tryd.prog 12 #[cfV c g] w fun e w' => e = .returned (.tuple #[.slice none 0 0, .int .i64 (mayC c).1]) ∧ Below w.heap.size w w' := by
  have hb := below_al w (.cells #[.slice g.la c.labels.length g.lc, .slice g.ta c.table.length g.tc, .int .i64 c.fuel, .int .i64 c.lane, .int .i64 c.locks, .int .i64 c.log, .slice g.pa c.procs.length g.pc] 27)
  have hmay := cmay_any c g _ (hR.below hb) (hF.kept hb) (hL.kept hb)
  have hm' : ((mayC c).1 == 0) = false := by simpa using hm
  generalize (mayC c).1 = E at *
  generalize (mayC c).2 = D at *
  have HB := hd hb
  clear hb hR hF hL hm
  unfold cfV cfA at hmay ⊢
  go_enter Tryd.func12, Tryd.ntmps12
  go_wp2_with (go_at_call 10; refine hmay.mono ?_; rintro e w2 ⟨rfl, b2⟩)
  go_ret2
  exact ⟨rfl, HB.out.trans (b2.mono HB.out.size)⟩


theorem rd_byt {w : World} {a : Option Addr} {bs : List Nat} (h : Byt w a bs) : Rd w a (bCells bs) := fun j u hj => by
  have hl : j < bs.length := by
    rcases Nat.lt_or_ge j bs.length with h | h
    · exact h
    · rw [List.getElem?_eq_none (by rw [bCells_len]; exact h)] at hj; cases hj
  obtain ⟨b, o, e, hc⟩ := h j hl
  refine ⟨b, o, e, ?_⟩
  rw [hc, ← hj]
  simp [bCells, List.getD_eq_getElem?_getD, List.getElem?_eq_getElem hl]

theorem may_eight {l : List Ins} {K : Int} (hK : K ≤ 8) (h : (mayL l K).1 = 0) : (mayL l 8).1 = 0 := by
  unfold mayL at h ⊢
  split at h
  · simp at h
  · rw [if_neg (by omega)]
    split at h
    · simp at h
    · next h2 =>
      rw [if_neg h2]
      rw [firstE_none _ _ _ _ (fun j hj => wrong_more (firstE_zero _ _ _ _ h j hj) (Int.le_refl _) hK)]

set_option maxRecDepth 100000 in
set_option maxHeartbeats 4000000 in
theorem cenc_go (c : Cfg) (bl ol lc bt ot tc bp op pc : Nat) (ms : List PrM) (w : World) (hR : CfR w c (⟨some ⟨bl, ol, none⟩, lc, some ⟨bt, ot, none⟩, tc, some ⟨bp, op, none⟩, pc, ms⟩ : Loc)) (hF : Fld w) (hL : Lim w) (hm : (mayC c).1 = 0) :
    Calls Tryd.prog 12 #[.agg #[.slice (some ⟨bl, ol, none⟩) c.labels.length lc, .slice (some ⟨bt, ot, none⟩) c.table.length tc, .int .i64 c.fuel, .int .i64 c.lane, .int .i64 c.locks, .int .i64 c.log, .slice (some ⟨bp, op, none⟩) c.procs.length pc]] w (EncOut w c) := by
  obtain ⟨w1, hw1⟩ : ∃ W, Hid (w.alloc (.cells #[.slice (some ⟨bl, ol, none⟩) c.labels.length lc, .slice (some ⟨bt, ot, none⟩) c.table.length tc, .int .i64 c.fuel, .int .i64 c.lane, .int .i64 c.locks, .int .i64 c.log, .slice (some ⟨bp, op, none⟩) c.procs.length pc] 27) = W) := ⟨_, rfl⟩
  have B1 : Hid (Below w.heap.size w w1) := hd (by rw [← hw1.out]; exact below_al w _)
  have HR := hd (hR.below B1.out)
  have HF := hd (hF.kept B1.out)
  have HL := hd (hL.kept B1.out)
  have hmay := cmay_any c _ w1 HR.out HF.out HL.out
  rw [mayC_zero c hm] at hmay
  have HM := hd hm
  have HK := hd ((mayC_iff c).1 hm)
  obtain ⟨G, hG⟩ : ∃ G, Hid (w.heap.size = G) := ⟨_, rfl⟩
  have HG : Hid (w1.heap[G]? = some (.cells #[.slice (some ⟨bl, ol, none⟩) c.labels.length lc, .slice (some ⟨bt, ot, none⟩) c.table.length tc, .int .i64 c.fuel, .int .i64 c.lane, .int .i64 c.locks, .int .i64 c.log, .slice (some ⟨bp, op, none⟩) c.procs.length pc] 27 (0, 0))) := hd (by rw [← hw1.out, ← hG.out]; exact heap_alloc_new w _)
  have HC : Hid (∀ W, Below w1.heap.size w1 W → W.cell? ⟨G, 0, none⟩ = some (.slice (some ⟨bl, ol, none⟩) c.labels.length lc) ∧ W.cell? ⟨G, 1, none⟩ = some (.slice (some ⟨bt, ot, none⟩) c.table.length tc) ∧ W.cell? ⟨G, 2, none⟩ = some (.int .i64 c.fuel) ∧ W.cell? ⟨G, 3, none⟩ = some (.int .i64 c.lane) ∧ W.cell? ⟨G, 4, none⟩ = some (.int .i64 c.locks) ∧ W.cell? ⟨G, 5, none⟩ = some (.int .i64 c.log) ∧ W.cell? ⟨G, 6, none⟩ = some (.slice (some ⟨bp, op, none⟩) c.procs.length pc)) := hd (fun W hW => by
    have h : W.heap[G]? = _ := (hW.block G (Array.getElem?_eq_some_iff.1 HG.out).1).trans HG.out
    exact ⟨cell_of_row W G 0 _ _ _ h, cell_of_row W G 1 _ _ _ h, cell_of_row W G 2 _ _ _ h, cell_of_row W G 3 _ _ _ h, cell_of_row W G 4 _ _ _ h, cell_of_row W G 5 _ _ _ h, cell_of_row W G 6 _ _ _ h⟩)
  have HCL : Hid (∀ W, Below w1.heap.size w1 W → ∀ i, i < c.labels.length → W.cell? ⟨bl, ol + i, none⟩ = some (.int .u64 ((c.labels.getD i 0 : Nat) : Int))) := hd (fun W hW i hi => by
    obtain ⟨b, o, e, hc⟩ := (HR.out.lab.below hW) i _ (labC_at c.labels i hi)
    cases e
    exact hc)
  have HCT : Hid (∀ W, Below w1.heap.size w1 W → ∀ i, i < c.table.length → W.cell? ⟨bt, ot + i, none⟩ = some (.int .i64 (c.table.getD i 0))) := hd (fun W hW i hi => by
    obtain ⟨b, o, e, hc⟩ := (HR.out.tab.below hW) i _ (iC_at c.table i hi)
    cases e
    exact hc)
  have HML := hd HR.out.len
  clear hR hF hL hm
  unfold cfV cfA at hmay
  simp only at hmay
  go_enter Tryd.func12, Tryd.ntmps12
  go_upto_region 1 with fail
  rw [hw1.out, hG.out]
  obtain ⟨c0, c1, c2, c3, c4, c5, c6⟩ := HC.out w1 (below_same w1)
  go_upto_region 4 with (go_at_call 10; refine hmay.mono ?_; rintro e w2 ⟨rfl, b2⟩; replace b2 := hd b2)
  clear hmay c0 c1 c2 c3 c4 c5 c6
  have hcv := Lib.run_convert_bytes_const (P := Tryd.prog) w2 31 5 #[.int .u8 70, .int .u8 66, .int .u8 67, .int .u8 70, .int .u8 1] 5 5 Tryd.underlying31 Tryd.underlying5
  have HLL : Hid (1 ≤ c.labels.length ∧ c.labels.length ≤ 8) := hd (lab_len HK.out.1)
  have HTL : Hid (1 ≤ c.table.length ∧ c.table.length ≤ 64) := hd (tab_len HK.out.2.1)
  have HPL : Hid (1 ≤ c.procs.length ∧ c.procs.length ≤ 32) := hd (by have := cnt_len HK.out.2.2.2.2.2.2.1; omega)
  obtain ⟨w3, hw3⟩ : ∃ W, Hid (w2.alloc (.cells #[.int .u8 70, .int .u8 66, .int .u8 67, .int .u8 70, .int .u8 1] 5 (5, 6)) = W) := ⟨_, rfl⟩
  replace hcv : (convert 31 31 (.slice (some ⟨w2.heap.size, 0, none⟩) 5 5)).run Tryd.prog (w2.alloc (.cells #[.int .u8 70, .int .u8 66, .int .u8 67, .int .u8 70, .int .u8 1] 5)) = .ok (.slice (some ⟨w2.heap.size, 0, none⟩) 5 5) w3 := by rw [← hw3.out]; exact hcv
  have b3 : Hid (Below w1.heap.size w1 w3) := hd (b2.out.trans (by rw [← hw3.out]; exact (below_al w2 _).mono b2.out.size))
  have HRd : Hid (Rd w3 (some ⟨w2.heap.size, 0, none⟩) (bCells hdB)) := hd (fun j u hj => ⟨_, 0, rfl, by
    rw [← hw3.out, Nat.zero_add, cell_of_row _ _ _ _ _ _ (heap_alloc_new w2 _)]
    simpa [bCells, hdB] using hj⟩)
  obtain ⟨a1, k1, w4, hap, hgr⟩ := Gr.first HRd.out rfl (by decide) b3.out c.labels.length
  replace hap : Hid (∀ ty, (Builtin.append_ #[31, 31] ty #[.slice (some ⟨w2.heap.size, 0, none⟩) 5 5, .slice (some ⟨w3.heap.size, 0, none⟩) 1 1]).run Tryd.prog (w3.alloc (.cells #[.int .u8 (c.labels.length : Int)] 5)) = .ok (.slice a1 (5 + 1) k1) w4) := hd hap
  have HGr : Hid (Gr w1 w4 a1 6 k1 (eL c 0)) := hd (by simpa [eL, hdB] using hgr)
  have ey : (c.labels.length : Int) % 256 = (c.labels.length : Int) := by have := HLL.out; omega
  obtain ⟨c0, -⟩ := HC.out w3 b3.out
  clear hgr hw3 HRd b2
  go_upto_region 6 with (at_builtin; refine wpList_append_run rfl _ _ _ rfl _ _ _ _ rfl rfl hap.out ?_; clear hap)
  clear c0 ey hcv b3
  obtain ⟨c0, -⟩ := HC.out w4 HGr.out.bel
  go_upto_block 0 with fail
  clear c0
  go_wp2_with fail
  go_loopg [6, 8, 38, 39, 40, 41, 42, 43, 44, 45] c.labels.length (fun gg v6 v8 v38 v39 v40 v41 v42 v43 v44 v45 wr => ∃ (i n : Nat) (a' : Option Addr) (k' : Nat), i + gg = c.labels.length ∧ v38 = .int .i64 (i : Int) ∧ v6 = .slice a' n k' ∧ Hid (Gr w1 wr a' n k' (eL c i)))
  case atStart => exact ⟨0, 6, a1, k1, by omega, by go_num, rfl, HGr⟩
  case round =>
    clear HGr
    obtain ⟨i, n, a1, k1, hi, rfl, rfl, HGr⟩ := hrel
    have hn : n ≤ 98542 := by have h1 := HGr.out.len; have h2 := eL_len c HM.out i; omega
    by_cases h0 : gk = 0
    · subst h0
      obtain rfl : i = c.labels.length := by omega
      have hge : decide ((c.labels.length : Int) < (c.labels.length : Int)) = false := by simp
      obtain ⟨c0, c1, -⟩ := HC.out wr HGr.out.bel
      obtain ⟨a2, k2, w5, hap, hg5, -⟩ := HGr.out.push (by omega) c.table.length
      replace hap := hd hap
      have HG5 : Hid (Gr w1 w5 a2 (n + 1) k2 (eT c 0)) := hd (by simpa [eT] using hg5)
      have ey : (c.table.length : Int) % 256 = (c.table.length : Int) := by have := HTL.out; omega
      clear hg5 HGr
      go_upto_region 12 with (at_builtin; refine wpList_append_run rfl _ _ _ rfl _ _ _ _ rfl rfl hap.out ?_; clear hap)
      clear ey c0 c1
      obtain ⟨c0, c1, -⟩ := HC.out w5 HG5.out.bel
      go_upto_block 2 with fail
      clear c0 c1
      go_wp2_with fail
      go_loopg [6, 10, 56, 57, 58, 59, 60, 61, 62, 63, 64, 65] c.table.length (fun gg v6 v10 v56 v57 v58 v59 v60 v61 v62 v63 v64 v65 wr => ∃ (i n : Nat) (a' : Option Addr) (k' : Nat), i + gg = c.table.length ∧ v56 = .int .i64 (i : Int) ∧ v6 = .slice a' n k' ∧ Hid (Gr w1 wr a' n k' (eT c i)))
      case atStart => exact ⟨0, n + 1, a2, k2, by omega, by go_num, rfl, HG5⟩
      case round =>
        clear HG5
        obtain ⟨i, n, a1, k1, hi, rfl, rfl, HGr⟩ := hrel
        have hn : n ≤ 98542 := by have h1 := HGr.out.len; have h2 := eT_len c HM.out i; omega
        by_cases h0 : gk = 0
        · subst h0
          obtain rfl : i = c.table.length := by omega
          have hge : decide ((c.table.length : Int) < (c.table.length : Int)) = false := by simp
          obtain ⟨c0, c1, c2, c3, c4, c5, c6⟩ := HC.out wr HGr.out.bel
          have hnm := cnum_any c (⟨some ⟨bl, ol, none⟩, lc, some ⟨bt, ot, none⟩, tc, some ⟨bp, op, none⟩, pc, ms⟩ : Loc) wr
          unfold cfV cfA nmV at hnm
          simp only at hnm
          go_upto_block 4 with (go_at_call 28; refine hnm.mono ?_; rintro e w6 ⟨rfl, b6⟩; replace b6 := hd b6)
          have HG6 : Hid (Gr w1 w6 a1 n k1 (eN c 0)) := hd (by simpa [eN, nmB] using HGr.out.below b6.out)
          clear hnm c0 c1 c2 c3 c4 c5 c6 HGr b6
          go_wp2_with fail
          go_loopg [6, 11, 12, 68, 69, 70, 71, 72, 73, 74, 75, 76, 77, 78, 79, 80] 4 (fun gg v6 v11 v12 v68 v69 v70 v71 v72 v73 v74 v75 v76 v77 v78 v79 v80 wr => ∃ (i n : Nat) (a' : Option Addr) (k' : Nat), i + gg = 4 ∧ v68 = .int .i64 (i : Int) ∧ v6 = .slice a' n k' ∧ Hid (Gr w1 wr a' n k' (eN c i)))
          case atStart => exact ⟨0, n, a1, k1, by omega, by go_num, rfl, HG6⟩
          case round =>
            clear HG6
            obtain ⟨i, n, a1, k1, hi, rfl, rfl, HGr⟩ := hrel
            have hn : n ≤ 98542 := by have h1 := HGr.out.len; have h2 := eN_len c HM.out i; omega
            have hc : i = 0 ∨ i = 1 ∨ i = 2 ∨ i = 3 ∨ i = 4 := by omega
            rcases hc with rfl | rfl | rfl | rfl | rfl
            · obtain rfl : gk = 4 := by omega
              have ix : ∀ W, (Instr.index 53 (.agg #[.int .i64 c.fuel, .int .i64 c.lane, .int .i64 c.locks, .int .i64 c.log]) (.int .i64 0)).run Tryd.prog W = .ok (.int .i64 c.fuel) W := fun W => by kernel_rfl
              have y0 := (HL.out.kept HGr.out.bel) 2 (by omega)
              simp only [limT, List.getD_cons_zero, List.getD_cons_succ] at y0
              have hv := rng_ok HK.out.2.2.1
              have hwr := written_any HGr.out (by omega) (Go.Proofs.YtmjokinagbpihaaDoor.u64 c.fuel) 2 (by omega)
              have eu : ((Go.Proofs.YtmjokinagbpihaaDoor.u64 c.fuel : Nat) : Int) = c.fuel := by unfold Go.Proofs.YtmjokinagbpihaaDoor.u64; omega
              rw [eu] at hwr
              have HN : Hid (∀ W a2 k2, Gr w1 W a2 (n + 2) k2 (eN c 0 ++ numB 2 (Go.Proofs.YtmjokinagbpihaaDoor.u64 c.fuel)) → Gr w1 W a2 (n + 2) k2 (eN c 1)) := hd (fun W a2 k2 h => by simpa [eN, nmB] using h)
              clear eu
              go_wp2_with (go_at_call 36; refine hwr.mono ?_; rintro e w7 ⟨a2, k2, rfl, hg7, -⟩; replace hg7 := hd (HN.out _ _ _ hg7))
              go_roundg 3
              case rel => exact ⟨1, n + 2, a2, k2, by omega, rfl, rfl, hg7⟩
              case measure => omega
            · obtain rfl : gk = 3 := by omega
              have ix : ∀ W, (Instr.index 53 (.agg #[.int .i64 c.fuel, .int .i64 c.lane, .int .i64 c.locks, .int .i64 c.log]) (.int .i64 1)).run Tryd.prog W = .ok (.int .i64 c.lane) W := fun W => by kernel_rfl
              have y0 := (HL.out.kept HGr.out.bel) 5 (by omega)
              simp only [limT, List.getD_cons_zero, List.getD_cons_succ] at y0
              have hv := rng_ok HK.out.2.2.2.1
              have hwr := written_any HGr.out (by omega) (Go.Proofs.YtmjokinagbpihaaDoor.u64 c.lane) 1 (by omega)
              have eu : ((Go.Proofs.YtmjokinagbpihaaDoor.u64 c.lane : Nat) : Int) = c.lane := by unfold Go.Proofs.YtmjokinagbpihaaDoor.u64; omega
              rw [eu] at hwr
              have HN : Hid (∀ W a2 k2, Gr w1 W a2 (n + 1) k2 (eN c 1 ++ numB 1 (Go.Proofs.YtmjokinagbpihaaDoor.u64 c.lane)) → Gr w1 W a2 (n + 1) k2 (eN c 2)) := hd (fun W a2 k2 h => by simpa [eN, nmB] using h)
              clear eu
              go_wp2_with (go_at_call 36; refine hwr.mono ?_; rintro e w7 ⟨a2, k2, rfl, hg7, -⟩; replace hg7 := hd (HN.out _ _ _ hg7))
              go_roundg 2
              case rel => exact ⟨2, n + 1, a2, k2, by omega, rfl, rfl, hg7⟩
              case measure => omega
            · obtain rfl : gk = 2 := by omega
              have ix : ∀ W, (Instr.index 53 (.agg #[.int .i64 c.fuel, .int .i64 c.lane, .int .i64 c.locks, .int .i64 c.log]) (.int .i64 2)).run Tryd.prog W = .ok (.int .i64 c.locks) W := fun W => by kernel_rfl
              have y0 := (HL.out.kept HGr.out.bel) 8 (by omega)
              simp only [limT, List.getD_cons_zero, List.getD_cons_succ] at y0
              have hv := rng_ok HK.out.2.2.2.2.1
              have hwr := written_any HGr.out (by omega) (Go.Proofs.YtmjokinagbpihaaDoor.u64 c.locks) 1 (by omega)
              have eu : ((Go.Proofs.YtmjokinagbpihaaDoor.u64 c.locks : Nat) : Int) = c.locks := by unfold Go.Proofs.YtmjokinagbpihaaDoor.u64; omega
              rw [eu] at hwr
              have HN : Hid (∀ W a2 k2, Gr w1 W a2 (n + 1) k2 (eN c 2 ++ numB 1 (Go.Proofs.YtmjokinagbpihaaDoor.u64 c.locks)) → Gr w1 W a2 (n + 1) k2 (eN c 3)) := hd (fun W a2 k2 h => by simpa [eN, nmB] using h)
              clear eu
              go_wp2_with (go_at_call 36; refine hwr.mono ?_; rintro e w7 ⟨a2, k2, rfl, hg7, -⟩; replace hg7 := hd (HN.out _ _ _ hg7))
              go_roundg 1
              case rel => exact ⟨3, n + 1, a2, k2, by omega, rfl, rfl, hg7⟩
              case measure => omega
            · obtain rfl : gk = 1 := by omega
              have ix : ∀ W, (Instr.index 53 (.agg #[.int .i64 c.fuel, .int .i64 c.lane, .int .i64 c.locks, .int .i64 c.log]) (.int .i64 3)).run Tryd.prog W = .ok (.int .i64 c.log) W := fun W => by kernel_rfl
              have y0 := (HL.out.kept HGr.out.bel) 11 (by omega)
              simp only [limT, List.getD_cons_zero, List.getD_cons_succ] at y0
              have hv := rng_ok HK.out.2.2.2.2.2.1
              have hwr := written_any HGr.out (by omega) (Go.Proofs.YtmjokinagbpihaaDoor.u64 c.log) 2 (by omega)
              have eu : ((Go.Proofs.YtmjokinagbpihaaDoor.u64 c.log : Nat) : Int) = c.log := by unfold Go.Proofs.YtmjokinagbpihaaDoor.u64; omega
              rw [eu] at hwr
              have HN : Hid (∀ W a2 k2, Gr w1 W a2 (n + 2) k2 (eN c 3 ++ numB 2 (Go.Proofs.YtmjokinagbpihaaDoor.u64 c.log)) → Gr w1 W a2 (n + 2) k2 (eN c 4)) := hd (fun W a2 k2 h => by simpa [eN, nmB] using h)
              clear eu
              go_wp2_with (go_at_call 36; refine hwr.mono ?_; rintro e w7 ⟨a2, k2, rfl, hg7, -⟩; replace hg7 := hd (HN.out _ _ _ hg7))
              go_roundg 0
              case rel => exact ⟨4, n + 2, a2, k2, by omega, rfl, rfl, hg7⟩
              case measure => omega
            · obtain rfl : gk = 0 := by omega
              obtain ⟨c0, c1, c2, c3, c4, c5, c6⟩ := HC.out wr HGr.out.bel
              obtain ⟨a2, k2, w7, hap, hg7, -⟩ := HGr.out.push (by omega) c.procs.length
              replace hap := hd hap
              have HG7 : Hid (Gr w1 w7 a2 (n + 1) k2 (eP c 0)) := hd (by simpa [eP] using hg7)
              have ey : (c.procs.length : Int) % 256 = (c.procs.length : Int) := by have := HPL.out; omega
              clear hg7 HGr
              go_upto_region 23 with (at_builtin; refine wpList_append_run rfl _ _ _ rfl _ _ _ _ rfl rfl hap.out ?_; clear hap)
              clear ey c0 c1 c2 c3 c4 c5 c6
              obtain ⟨-, -, -, -, -, -, c6⟩ := HC.out w7 HG7.out.bel
              go_upto_block 6 with fail
              clear c6
              go_wp2_with fail
              go_loopg [6, 14, 15, 16, 17, 91, 92, 93, 94, 95, 96, 97, 98, 99, 100, 101, 102, 103, 104, 105, 106, 107, 108, 109, 110, 111, 112, 113, 114, 115, 116, 117] c.procs.length (fun gg v6 v14 v15 v16 v17 v91 v92 v93 v94 v95 v96 v97 v98 v99 v100 v101 v102 v103 v104 v105 v106 v107 v108 v109 v110 v111 v112 v113 v114 v115 v116 v117 wr => ∃ (i n : Nat) (a' : Option Addr) (k' : Nat), i + gg = c.procs.length ∧ v91 = .int .i64 (i : Int) ∧ v6 = .slice a' n k' ∧ Hid (Gr w1 wr a' n k' (eP c i)))
              case atStart => exact ⟨0, n + 1, a2, k2, by omega, by go_num, rfl, HG7⟩
              case round =>
                clear HG7
                obtain ⟨i, n, a1, k1, hi, rfl, rfl, HGr⟩ := hrel
                have hn : n ≤ 98542 := by have h1 := HGr.out.len; have h2 := eP_len c HM.out i; omega
                by_cases h0 : gk = 0
                · subst h0
                  obtain rfl : i = c.procs.length := by omega
                  have hge : decide ((c.procs.length : Int) < (c.procs.length : Int)) = false := by simp
                  have HE : Hid (EncOut w c (.returned (.tuple #[.slice a1 n k1, .int .i64 0])) wr) := hd (by
                    have h1 := HGr.out.len
                    have h2 := HGr.out.row
                    rw [eP_all c HM.out] at h1 h2
                    refine ⟨a1, k1, by rw [h1], by rw [h1]; exact h2, fun k hk => Nat.le_trans B1.out.size (HGr.out.new k hk), B1.out.trans (HGr.out.bel.mono B1.out.size)⟩)
                  go_wp2_with fail
                  go_ret2
                  exact HE.out
                · have hlt : (i : Int) < (c.procs.length : Int) := by omega
                  have hi8 : (i : Int) < 32 := by have := HPL.out; omega
                  have hims : i < ms.length := by rw [HML.out]; omega
                  have HRr := hd (HR.out.below HGr.out.bel)
                  obtain ⟨b', o', epa', x0⟩ := HRr.out.prs _ _ (psC_at ms i hims).1
                  cases epa'
                  obtain ⟨b', o', epa', x1⟩ := HRr.out.prs _ _ (psC_at ms i hims).2
                  cases epa'
                  have hx1 : op + (i * 2 + 1) = op + i * 2 + 1 := by omega
                  rw [hx1] at x1
                  have HRc := hd (HR.out.cod (ms.getD i default) (by rw [List.getD_eq_getElem?_getD, List.getElem?_eq_getElem hims]; exact List.getElem_mem _))
                  have HAt := hd (HRr.out.at i)
                  simp only at HAt
                  have HPE := hd (HK.out.2.2.2.2.2.2.2 (c.procs.getD i default) (by rw [List.getD_eq_getElem?_getD, List.getElem?_eq_getElem (show i < c.procs.length by omega)]; exact List.getElem_mem _))
                  rw [← HAt.out] at HPE
                  have HN : Hid (∀ W a2 k2 m, Gr w1 W a2 m k2 (eP c i ++ prB (ms.getD i default).p) → Gr w1 W a2 m k2 (eP c (i + 1))) := hd (fun W a2 k2 m h => by
                    rw [HAt.out] at h
                    unfold eP at h ⊢
                    rw [take_flat prB c.procs i (by omega), ← List.append_assoc]
                    exact h)
                  clear HAt HRr hx1
                  generalize ms.getD i default = m at *
                  obtain ⟨⟨part, code⟩, ma, mc⟩ := m
                  simp only at x0 x1 HRc HPE HN
                  have hP0 : Hid ((mayL code 8).1 = 0 ∧ 0 ≤ part ∧ part < 8) := hd (by
                    have h1 := HPE.out
                    have h2 := HLL.out
                    have h3 := rng_ok HK.out.2.2.2.2.1
                    unfold prE at h1
                    split at h1
                    · simp at h1
                    · next h4 =>
                      have h5 := rng_ok (by simpa using h4)
                      exact ⟨may_eight h3.2 h1, h5.1, by omega⟩)
                  have hcl : code.length ≤ 256 := may_len hP0.out.1
                  go_upto_region 26 with fail
                  obtain ⟨wa, hwa⟩ : ∃ W, Hid (wr.alloc (.cells #[.int .i64 part, .slice ma code.length mc] 42) = W) := ⟨_, rfl⟩
                  rw [hwa.out]
                  have ba : Hid (Below wr.heap.size wr wa) := hd (by rw [← hwa.out]; exact below_al wr _)
                  have HBx : Hid (wa.heap[wr.heap.size]? = some (.cells #[.int .i64 part, .slice ma code.length mc] 42 (0, 0))) := hd (by rw [← hwa.out]; exact heap_alloc_new wr _)
                  have HNe : Hid (∀ k, blk a1 = some k → k < wr.heap.size) := hd HGr.out.row.lt
                  replace HGr := hd (HGr.out.below ba.out)
                  obtain ⟨Bp, hBp⟩ : ∃ B, Hid (wr.heap.size = B) := ⟨_, rfl⟩
                  rw [hBp.out] at HBx HNe ⊢
                  clear hwa ba hBp x0 x1
                  obtain ⟨a2, k2, wb, hap, hgb, htb⟩ := HGr.out.push (by omega) (Go.Proofs.YtmjokinagbpihaaDoor.u64 part % 256)
                  have ey : part % 256 = ((Go.Proofs.YtmjokinagbpihaaDoor.u64 part % 256 : Nat) : Int) := by unfold Go.Proofs.YtmjokinagbpihaaDoor.u64; have := hP0.out; omega
                  have HY : Hid (numB 1 (Go.Proofs.YtmjokinagbpihaaDoor.u64 part) = [Go.Proofs.YtmjokinagbpihaaDoor.u64 part % 256]) := hd (numB_one _)
                  have HBb : Hid (wb.heap[Bp]? = some (.cells #[.int .i64 part, .slice ma code.length mc] 42 (0, 0))) := hd ((htb.mod.block Bp (Array.getElem?_eq_some_iff.1 HBx.out).1 (fun e => by have := HNe.out Bp e; omega)).trans HBx.out)
                  have y0 := cell_of_row wa Bp 0 _ _ _ HBx.out
                  simp at y0
                  replace hap := hd hap
                  have HW : Hid (∀ v, Calls Tryd.prog 36 #[.slice a2 (n + 1) k2, .int .u64 ((v : Nat) : Int), .int .i64 2] wb fun e W' => ∃ a' c', e = .returned (.slice a' (n + 1 + 2) c') ∧ Gr w1 W' a' (n + 1 + 2) c' ((eP c i ++ [Go.Proofs.YtmjokinagbpihaaDoor.u64 part % 256]) ++ numB 2 v) ∧ GrTo wb a2 W' a') := hd (fun v => written_any hgb (by omega) v 2 (by omega))
                  replace htb := hd htb
                  generalize Go.Proofs.YtmjokinagbpihaaDoor.u64 part % 256 = y at *
                  clear hgb HGr
                  go_upto_region 27 with (at_builtin; refine wpList_append_run rfl _ _ _ rfl _ _ _ _ rfl rfl hap.out ?_; clear hap)
                  have z1 := cell_of_row wb Bp 1 _ _ _ HBb.out
                  simp at z1
                  have hwr := HW.out code.length
                  clear y0 ey HW
                  go_upto_region 28 with (go_at_call 36; refine hwr.mono ?_; rintro e wc ⟨a3, k3, rfl, hgc, htc⟩; replace hgc := hd hgc; replace htc := hd htc)
                  have HBc : Hid (wc.heap[Bp]? = some (.cells #[.int .i64 part, .slice ma code.length mc] 42 (0, 0))) := hd ((htc.out.mod.block Bp (Array.getElem?_eq_some_iff.1 HBb.out).1 (fun e => by
                    rcases htb.out.new Bp e with h1 | h1
                    · have := HNe.out Bp h1; omega
                    · have := (Array.getElem?_eq_some_iff.1 HBx.out).1; omega)).trans HBb.out)
                  have z2 := cell_of_row wc Bp 1 _ _ _ HBc.out
                  simp at z2
                  have hen := encode_ok ma mc code wc (prg_of_rd (HRc.out.below hgc.out.bel)) (HF.out.kept hgc.out.bel) hP0.out.1
                  clear hwr z1
                  go_upto_region 29 with (go_at_call 37; refine hen.mono ?_; rintro e wd ⟨gx, kx, rfl, howx, bd⟩; replace howx := hd howx; replace bd := hd bd)
                  obtain ⟨a4, k4, we, hap2, hge, -⟩ := (hgc.out.below bd.out).app (by omega) (rd_byt (byt_of_owns howx.out).1) (c2 := kx) (by rw [encB_len]) (by omega)
                  have HGe : Hid (Gr w1 we a4 (n + 1 + 2 + 12 * code.length) k4 (eP c (i + 1))) := hd (HN.out _ _ _ _ (by
                    rw [prB, HY.out]
                    simpa [List.append_assoc] using hge))
                  replace hap2 := hd hap2
                  clear hge z2 hen
                  go_wp2_with (at_builtin; refine wpList_append_run rfl _ _ _ rfl _ _ _ _ rfl rfl hap2.out ?_; clear hap2)
                  go_roundg (gk - 1)
                  case rel => exact ⟨i + 1, n + 1 + 2 + 12 * code.length, a4, k4, by omega, by go_num, rfl, HGe⟩
                  case measure => omega
        · have hlt : (i : Int) < (c.table.length : Int) := by omega
          have hi8 : (i : Int) < 64 := by have := HTL.out; omega
          have x0 := HCT.out wr HGr.out.bel i (by omega)
          have HX : Hid (0 ≤ c.table.getD i 0 ∧ c.table.getD i 0 < 8) := hd (by
            have h1 := HK.out.2.1
            have h2 := HLL.out
            unfold tabE at h1
            split at h1
            · simp at h1
            · split at h1
              · simp at h1
              · split at h1
                · next h3 =>
                  have h4 := all_at h3 i (by omega)
                  rw [isPt, Bool.and_eq_true, decide_eq_true_eq, decide_eq_true_eq] at h4
                  omega
                · simp at h1)
          obtain ⟨a2, k2, w5, hap, hg5, -⟩ := HGr.out.push (by omega) (Go.Proofs.YtmjokinagbpihaaDoor.u64 (c.table.getD i 0) % 256)
          have HG5 : Hid (Gr w1 w5 a2 (n + 1) k2 (eT c (i + 1))) := hd (by
            unfold eT at hg5 ⊢
            rw [take_flat (fun x => numB 1 (Go.Proofs.YtmjokinagbpihaaDoor.u64 x)) c.table i (by omega), numB_one, ← List.append_assoc]
            exact hg5)
          have ey : c.table.getD i 0 % 256 = ((Go.Proofs.YtmjokinagbpihaaDoor.u64 (c.table.getD i 0) % 256 : Nat) : Int) := by unfold Go.Proofs.YtmjokinagbpihaaDoor.u64; have := HX.out; omega
          replace hap := hd hap
          generalize Go.Proofs.YtmjokinagbpihaaDoor.u64 (c.table.getD i 0) % 256 = y at *
          generalize c.table.getD i 0 = x at *
          clear hg5 HGr HX
          go_wp2_with (at_builtin; refine wpList_append_run rfl _ _ _ rfl _ _ _ _ rfl rfl hap.out ?_; clear hap)
          go_roundg (gk - 1)
          case rel => exact ⟨i + 1, n + 1, a2, k2, by omega, by go_num, rfl, HG5⟩
          case measure => omega
    · have hlt : (i : Int) < (c.labels.length : Int) := by omega
      have hi8 : (i : Int) < 8 := by have := HLL.out; omega
      have x0 := HCL.out wr HGr.out.bel i (by omega)
      have hwr := written_any HGr.out (by omega) (c.labels.getD i 0) 8 (by omega)
      have HN : Hid (∀ W a2 k2, Gr w1 W a2 (n + 8) k2 (eL c i ++ numB 8 (c.labels.getD i 0)) → Gr w1 W a2 (n + 8) k2 (eL c (i + 1))) := hd (fun W a2 k2 h => by
        unfold eL at h ⊢
        rw [take_flat (numB 8) c.labels i (by omega), ← List.append_assoc]
        exact h)
      generalize c.labels.getD i 0 = x at *
      go_wp2_with (go_at_call 36; refine hwr.mono ?_; rintro e w5 ⟨a2, k2, rfl, hg5, -⟩; replace hg5 := hd (HN.out _ _ _ hg5))
      go_roundg (gk - 1)
      case rel => exact ⟨i + 1, n + 8, a2, k2, by omega, by go_num, rfl, hg5⟩
      case measure => omega

theorem cenc_ok (c : Cfg) (g : Loc) (w : World) (hR : CfR w c g) (hF : Fld w) (hL : Lim w) (hm : (mayC c).1 = 0) :
    Calls Tryd.prog 12 #[cfV c g] w (EncOut w c) := by
  obtain ⟨h0, h1, -, -, -, -, h6, -⟩ := (mayC_iff c).1 hm
  have l1 := lab_len h0
  have l2 := tab_len h1
  have l3 := cnt_len h6
  obtain ⟨bl, ol, e1, -⟩ := rd_lab hR.lab (by omega)
  obtain ⟨bt, ot, e2, -⟩ := rd_int hR.tab (by omega)
  obtain ⟨bp, op, e3, -⟩ := hR.prs _ _ (psC_at g.ms 0 (by rw [hR.len]; omega)).1
  obtain ⟨la, lc, ta, tc, pa, pc, ms⟩ := g
  simp only at e1 e2 e3
  subst e1 e2 e3
  exact cenc_go c bl ol lc bt ot tc bp op pc ms w hR hF hL hm
end Go.Proofs.YtmjokinagbpihaaDoor
