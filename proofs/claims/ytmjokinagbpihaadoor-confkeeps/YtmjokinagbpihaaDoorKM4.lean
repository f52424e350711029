/- The document's Encode. -/
import Derived.Test.YtmjokinagbpihaaDoorGKm
namespace Go.Proofs.YtmjokinagbpihaaDoor
open Go.RowKit

set_option maxRecDepth 100000 in
set_option maxHeartbeats 2000000 in
theorem denc_no (c : Cfg) (g : Loc) (w : World) (hR : CfR w c g) (hm : (mayC c).1 ≠ 0) :
    Calls Tryd.prog 13 #[cfV c g] w fun e w' => e = .returned (.tuple #[.slice none 0 0, .int .i64 (mayC c).1]) ∧ Below w.heap.size w w' := by
  have hb := below_al w (.cells #[.slice g.la c.labels.length g.lc, .slice g.ta c.table.length g.tc, .int .i64 c.fuel, .int .i64 c.lane, .int .i64 c.locks, .int .i64 c.log, .slice g.pa c.procs.length g.pc] 27)
  have hmay := dmay_any c g _ (hR.below hb)
  have hm' : ((mayC c).1 != 0) = true := by simpa using hm
  generalize (mayC c).1 = E at *
  generalize (mayC c).2 = D at *
  have HB := hd hb
  clear hb hR hm
  unfold cfV cfA at hmay ⊢
  go_enter Tryd.func13, Tryd.ntmps13
  go_wp2_with (go_at_call 11; refine hmay.mono ?_; rintro e w2 ⟨rfl, b2⟩)
  go_ret2
  exact ⟨rfl, HB.out.trans (b2.mono HB.out.size)⟩


set_option maxRecDepth 100000 in
set_option maxHeartbeats 8000000 in
theorem denc_go (c : Cfg) (bl ol lc bt ot tc bp op pc : Nat) (ms : List PrM) (w : World) (hR : CfR w c (⟨some ⟨bl, ol, none⟩, lc, some ⟨bt, ot, none⟩, tc, some ⟨bp, op, none⟩, pc, ms⟩ : Loc)) (hm : (mayC c).1 = 0) :
    Calls Tryd.prog 13 #[.agg #[.slice (some ⟨bl, ol, none⟩) c.labels.length lc, .slice (some ⟨bt, ot, none⟩) c.table.length tc, .int .i64 c.fuel, .int .i64 c.lane, .int .i64 c.locks, .int .i64 c.log, .slice (some ⟨bp, op, none⟩) c.procs.length pc]] w (EncOut w c) := by
  obtain ⟨w1, hw1⟩ : ∃ W, Hid (w.alloc (.cells #[.slice (some ⟨bl, ol, none⟩) c.labels.length lc, .slice (some ⟨bt, ot, none⟩) c.table.length tc, .int .i64 c.fuel, .int .i64 c.lane, .int .i64 c.locks, .int .i64 c.log, .slice (some ⟨bp, op, none⟩) c.procs.length pc] 27) = W) := ⟨_, rfl⟩
  have B1 : Hid (Below w.heap.size w w1) := hd (by rw [← hw1.out]; exact below_al w _)
  have HR := hd (hR.below B1.out)
  have hmay := dmay_any c _ w1 HR.out
  rw [mayC_zero c hm] at hmay
  have HM := hd hm
  have HK := hd ((mayC_iff c).1 hm)
  obtain ⟨G, hG⟩ : ∃ G, Hid (w.heap.size = G) := ⟨_, rfl⟩
  have HG : Hid (w1.heap[G]? = some (.cells #[.slice (some ⟨bl, ol, none⟩) c.labels.length lc, .slice (some ⟨bt, ot, none⟩) c.table.length tc, .int .i64 c.fuel, .int .i64 c.lane, .int .i64 c.locks, .int .i64 c.log, .slice (some ⟨bp, op, none⟩) c.procs.length pc] 27 (0, 0))) := hd (by rw [← hw1.out, ← hG.out]; exact heap_alloc_new w _)
  have HC : Hid (∀ W, Below w1.heap.size w1 W → W.cell? ⟨G, 0, none⟩ = some (.slice (some ⟨bl, ol, none⟩) c.labels.length lc) ∧ W.cell? ⟨G, 1, none⟩ = some (.slice (some ⟨bt, ot, none⟩) c.table.length tc) ∧ W.cell? ⟨G, 2, none⟩ = some (.int .i64 c.fuel) ∧ W.cell? ⟨G, 3, none⟩ = some (.int .i64 c.lane) ∧ W.cell? ⟨G, 4, none⟩ = some (.int .i64 c.locks) ∧ W.cell? ⟨G, 5, none⟩ = some (.int .i64 c.log) ∧ W.cell? ⟨G, 6, none⟩ = some (.slice (some ⟨bp, op, none⟩) c.procs.length pc)) := hd (fun W hW => by
    have h : W.heap[G]? = _ := (hW.block G (Array.getElem?_eq_some_iff.1 HG.out).1).trans HG.out
    exact ⟨cell_of_row W G 0 _ _ _ h, cell_of_row W G 1 _ _ _ h, cell_of_row W G 2 _ _ _ h, cell_of_row W G 3 _ _ _ h, cell_of_row W G 4 _ _ _ h, cell_of_row W G 5 _ _ _ h, cell_of_row W G 6 _ _ _ h⟩)
  have HCL : Hid (∀ W, Below w1.heap.size w1 W → ∀ i, i < c.labels.length → W.cell? ⟨bl, ol + i, none⟩ = some (.int .u64 ((c.labels.getD i 0 : Nat) : Int))) := hd (fun W hW i hi => by
    obtain ⟨b, o, e, hc⟩ := (HR.out.lab.below hW) i _ (labC_at c.labels i hi)
    cases e
    exact hc)
  have HCT : Hid (∀ W, Below w1.heap.size w1 W → ∀ i, i < c.table.length → W.cell? ⟨bt, ot + i, none⟩ = some (.int .i64 (c.table.getD i 0))) := hd (fun W hW i hi => by
    obtain ⟨b, o, e, hc⟩ := (HR.out.tab.below hW) i _ (iC_at c.table i hi)
    cases e
    exact hc)
  have HML := hd HR.out.len
  clear hR hm
  unfold cfV cfA at hmay
  simp only at hmay
  go_enter Tryd.func13, Tryd.ntmps13
  go_upto_region 1 with fail
  rw [hw1.out, hG.out]
  obtain ⟨c0, c1, c2, c3, c4, c5, c6⟩ := HC.out w1 (below_same w1)
  go_upto_region 4 with (go_at_call 11; refine hmay.mono ?_; rintro e w2 ⟨rfl, b2⟩; replace b2 := hd b2)
  clear hmay c0 c1 c2 c3 c4 c5 c6
  have HLL : Hid (1 ≤ c.labels.length ∧ c.labels.length ≤ 8) := hd (lab_len HK.out.1)
  have HTL : Hid (1 ≤ c.table.length ∧ c.table.length ≤ 64) := hd (tab_len HK.out.2.1)
  have HPL : Hid (1 ≤ c.procs.length ∧ c.procs.length ≤ 32) := hd (by have := cnt_len HK.out.2.2.2.2.2.2.1; omega)
  obtain ⟨w3, hw3⟩ : ∃ W, Hid (w2.alloc (.cells #[.int .u8 70, .int .u8 66, .int .u8 67, .int .u8 70, .int .u8 1, .int .u8 (c.labels.length : Int)] 5) = W) := ⟨_, rfl⟩
  have b3 : Hid (Below w1.heap.size w1 w3) := hd (b2.out.trans (by rw [← hw3.out]; exact (below_al w2 _).mono b2.out.size))
  have HGr : Hid (Gr w1 w3 (some ⟨w2.heap.size, 0, none⟩) 6 6 (eL c 0)) := hd ⟨by
    have h1 : w3.heap[w2.heap.size]? = some (.cells #[.int .u8 70, .int .u8 66, .int .u8 67, .int .u8 70, .int .u8 1, .int .u8 (c.labels.length : Int)] 5 (0, 0)) := by rw [← hw3.out]; exact heap_alloc_new w2 _
    have h2 := row_new (size := 1) (n := 6) h1 rfl (by unfold maxLen; omega)
    have h3 : bCells (eL c 0) = [.int .u8 70, .int .u8 66, .int .u8 67, .int .u8 70, .int .u8 1, .int .u8 (c.labels.length : Int)] := by simp [eL, hdB, bCells]
    rw [h3]
    exact h2, fun k hk => Nat.le_trans b2.out.size (Nat.le_of_eq (Option.some.inj hk)), b3.out⟩
  have ey : (c.labels.length : Int) % 256 = (c.labels.length : Int) := by have := HLL.out; omega
  obtain ⟨c0, -⟩ := HC.out w2 b2.out
  go_upto_block 0 with fail
  rw [hw3.out]
  generalize (some (⟨w2.heap.size, 0, none⟩ : Addr)) = a1 at HGr ⊢
  clear c0 ey b3 hw3 b2
  go_cut [6, 7] (fun v6 v7 wy => ∃ (n : Nat) (a' : Option Addr) (k' : Nat), v6 = .slice a' n k' ∧ Hid (Gr w1 wy a' n k' (eL c c.labels.length)))
  case first =>
    go_wp2_with fail
    go_loopg [6, 7, 25, 26, 27, 28, 29, 30, 31, 32, 33, 34, 35, 36, 37, 38] c.labels.length (fun gg v6 v7 v25 v26 v27 v28 v29 v30 v31 v32 v33 v34 v35 v36 v37 v38 wr => ∃ (i n : Nat) (a' : Option Addr) (k' : Nat), i + gg = c.labels.length ∧ v7 = .int .i64 (i : Int) ∧ v6 = .slice a' n k' ∧ Hid (Gr w1 wr a' n k' (eL c i)))
    case atStart => exact ⟨0, 6, a1, 6, by omega, by go_num, rfl, HGr⟩
    case round =>
      clear HGr
      obtain ⟨i, n, a1, k1, hi, rfl, rfl, HGr⟩ := hrel
      have hn : n ≤ 98542 := by have h1 := HGr.out.len; have h2 := eL_len c HM.out i; omega
      obtain ⟨c0, -⟩ := HC.out wr HGr.out.bel
      by_cases h0 : gk = 0
      · subst h0
        obtain rfl : i = c.labels.length := by omega
        have hge : decide ((c.labels.length : Int) < (c.labels.length : Int)) = false := by simp
        go_wp2_with fail
        go_meet
        exact ⟨n, a1, k1, rfl, HGr⟩
      · have hlt : (i : Int) < (c.labels.length : Int) := by omega
        have hi8 : (i : Int) < 8 := by have := HLL.out; omega
        have x0 := HCL.out wr HGr.out.bel i (by omega)
        have hwr := dnumber_any HGr.out (by omega) (c.labels.getD i 0) 8 (by omega)
        have HN : Hid (∀ W a2 k2, Gr w1 W a2 (n + 8) k2 (eL c i ++ numB 8 (c.labels.getD i 0)) → Gr w1 W a2 (n + 8) k2 (eL c (i + 1))) := hd (fun W a2 k2 h => by
          unfold eL at h ⊢
          rw [take_flat (numB 8) c.labels i (by omega), ← List.append_assoc]
          exact h)
        generalize c.labels.getD i 0 = x at *
        clear HGr
        go_wp2_with (go_at_call 38; refine hwr.mono ?_; rintro e w7 ⟨a2, k2, rfl, hg7, -⟩; replace hg7 := hd (HN.out _ _ _ hg7))
        go_roundg (gk - 1)
        case rel => exact ⟨i + 1, n + 8, a2, k2, by omega, by go_num, rfl, hg7⟩
        case measure => omega
  case rest =>
  clear HGr
  obtain ⟨n, a1', k1, rfl, HGr⟩ := hcut
  have hn : n ≤ 98542 := by have h1 := HGr.out.len; have h2 := eL_len c HM.out c.labels.length; omega
  obtain ⟨c0, c1, -⟩ := HC.out wc HGr.out.bel
  obtain ⟨a2, k2, w5, hap, hg5, -⟩ := HGr.out.push (by omega) c.table.length
  replace hap := hd hap
  have HG5 : Hid (Gr w1 w5 a2 (n + 1) k2 (eT c 0)) := hd (by simpa [eT] using hg5)
  have ey : (c.table.length : Int) % 256 = (c.table.length : Int) := by have := HTL.out; omega
  clear hg5 HGr
  go_upto_block 2 with (at_builtin; refine wpList_append_run rfl _ _ _ rfl _ _ _ _ rfl rfl hap.out ?_; clear hap)
  clear ey c0 c1
  go_cut [6, 8] (fun v6 v8 wy => ∃ (n : Nat) (a' : Option Addr) (k' : Nat), v6 = .slice a' n k' ∧ Hid (Gr w1 wy a' n k' (eT c c.table.length)))
  case first =>
    go_wp2_with fail
    go_loopg [6, 8, 46, 47, 48, 49, 50, 51, 52, 53, 54, 55, 56, 57, 58, 59, 60, 61] c.table.length (fun gg v6 v8 v46 v47 v48 v49 v50 v51 v52 v53 v54 v55 v56 v57 v58 v59 v60 v61 wr => ∃ (i n : Nat) (a' : Option Addr) (k' : Nat), i + gg = c.table.length ∧ v8 = .int .i64 (i : Int) ∧ v6 = .slice a' n k' ∧ Hid (Gr w1 wr a' n k' (eT c i)))
    case atStart => exact ⟨0, n + 1, a2, k2, by omega, by go_num, rfl, HG5⟩
    case round =>
      clear HG5
      obtain ⟨i, n, a1, k1, hi, rfl, rfl, HGr⟩ := hrel
      have hn : n ≤ 98542 := by have h1 := HGr.out.len; have h2 := eT_len c HM.out i; omega
      obtain ⟨-, c1, -⟩ := HC.out wr HGr.out.bel
      by_cases h0 : gk = 0
      · subst h0
        obtain rfl : i = c.table.length := by omega
        have hge : decide ((c.table.length : Int) < (c.table.length : Int)) = false := by simp
        go_wp2_with fail
        go_meet
        exact ⟨n, a1, k1, rfl, HGr⟩
      · have hlt : (i : Int) < (c.table.length : Int) := by omega
        have hi8 : (i : Int) < 64 := by have := HTL.out; omega
        have x0 := HCT.out wr HGr.out.bel i (by omega)
        have HX : Hid (0 ≤ c.table.getD i 0 ∧ c.table.getD i 0 < 8) := hd (by
          have h1 := HK.out.2.1
          have h2 := HLL.out
          unfold tabE at h1
          split at h1
          · simp at h1
          · split at h1
            · simp at h1
            · split at h1
              · next h3 =>
                have h4 := all_at h3 i (by omega)
                rw [isPt, Bool.and_eq_true, decide_eq_true_eq, decide_eq_true_eq] at h4
                omega
              · simp at h1)
        obtain ⟨a2, k2, w5, hap, hg5, -⟩ := HGr.out.push (by omega) (Go.Proofs.YtmjokinagbpihaaDoor.u64 (c.table.getD i 0) % 256)
        have HG5 : Hid (Gr w1 w5 a2 (n + 1) k2 (eT c (i + 1))) := hd (by
          unfold eT at hg5 ⊢
          rw [take_flat (fun x => numB 1 (Go.Proofs.YtmjokinagbpihaaDoor.u64 x)) c.table i (by omega), numB_one, ← List.append_assoc]
          exact hg5)
        have ey : c.table.getD i 0 % 256 = ((Go.Proofs.YtmjokinagbpihaaDoor.u64 (c.table.getD i 0) % 256 : Nat) : Int) := by unfold Go.Proofs.YtmjokinagbpihaaDoor.u64; have := HX.out; omega
        replace hap := hd hap
        generalize Go.Proofs.YtmjokinagbpihaaDoor.u64 (c.table.getD i 0) % 256 = y at *
        generalize c.table.getD i 0 = x at *
        clear hg5 HGr HX
        go_wp2_with (at_builtin; refine wpList_append_run rfl _ _ _ rfl _ _ _ _ rfl rfl hap.out ?_; clear hap)
        go_roundg (gk - 1)
        case rel => exact ⟨i + 1, n + 1, a2, k2, by omega, by go_num, rfl, HG5⟩
        case measure => omega
  case rest =>
  clear HG5
  obtain ⟨n, a3, k3, rfl, HGr⟩ := hcut
  have hn : n ≤ 98542 := by have h1 := HGr.out.len; have h2 := eT_len c HM.out c.table.length; omega
  obtain ⟨-, -, c2, -⟩ := HC.out wc HGr.out.bel
  have hv := rng_ok HK.out.2.2.1
  have eu : ((Go.Proofs.YtmjokinagbpihaaDoor.u64 c.fuel : Nat) : Int) = c.fuel := by unfold Go.Proofs.YtmjokinagbpihaaDoor.u64; omega
  have hwr := dnumber_any HGr.out (by omega) (Go.Proofs.YtmjokinagbpihaaDoor.u64 c.fuel) 2 (by omega)
  rw [eu] at hwr
  have HN : Hid (∀ W a2 k2, Gr w1 W a2 (n + 2) k2 (eT c c.table.length ++ numB 2 (Go.Proofs.YtmjokinagbpihaaDoor.u64 c.fuel)) → Gr w1 W a2 (n + 2) k2 (eN c 1)) := hd (fun W a2 k2 h => by simpa [eN, nmB] using h)
  clear eu HGr
  go_upto_region 15 with (go_at_call 38; refine hwr.mono ?_; rintro e w6 ⟨a4, k4, rfl, hg7, -⟩; replace hg7 := hd (HN.out _ _ _ hg7))
  clear hwr HN c2 hv
  have hn1 : n + 2 ≤ 98544 := by omega
  generalize n + 2 = n1 at *
  clear hn
  obtain ⟨-, -, -, c3, c4, -⟩ := HC.out w6 hg7.out.bel
  have hv3 := rng_ok HK.out.2.2.2.1
  have hv4 := rng_ok HK.out.2.2.2.2.1
  have ey3 : c.lane = ((Go.Proofs.YtmjokinagbpihaaDoor.u64 c.lane % 256 : Nat) : Int) := by unfold Go.Proofs.YtmjokinagbpihaaDoor.u64; omega
  have ey4 : c.locks = ((Go.Proofs.YtmjokinagbpihaaDoor.u64 c.locks % 256 : Nat) : Int) := by unfold Go.Proofs.YtmjokinagbpihaaDoor.u64; omega
  obtain ⟨a5, k5, w7, hap, hg8, -⟩ := hg7.out.pushN (by omega) [Go.Proofs.YtmjokinagbpihaaDoor.u64 c.lane % 256, Go.Proofs.YtmjokinagbpihaaDoor.u64 c.locks % 256] (m := 2) rfl (by omega) (cs := #[.int .u8 c.lane, .int .u8 c.locks]) (by rw [show bCells [Go.Proofs.YtmjokinagbpihaaDoor.u64 c.lane % 256, Go.Proofs.YtmjokinagbpihaaDoor.u64 c.locks % 256] = [.int .u8 ((Go.Proofs.YtmjokinagbpihaaDoor.u64 c.lane % 256 : Nat) : Int), .int .u8 ((Go.Proofs.YtmjokinagbpihaaDoor.u64 c.locks % 256 : Nat) : Int)] from rfl, ← ey3, ← ey4])
  have HG8 : Hid (Gr w1 w7 a5 (n1 + 2) k5 (eN c 3)) := hd (by simpa [eN, nmB, numB_one, List.append_assoc] using hg8)
  replace hap := hd hap
  clear ey3 ey4
  clear hg8 hg7
  go_upto_region 16 with (at_builtin; refine wpList_append_run rfl _ _ _ rfl _ _ _ _ rfl rfl hap.out ?_; clear hap)
  clear c3 c4 hv3 hv4
  have hn2 : n1 + 2 ≤ 98546 := by omega
  generalize n1 + 2 = n2 at *
  clear hn1
  obtain ⟨-, -, -, -, -, c5, -⟩ := HC.out w7 HG8.out.bel
  have hv := rng_ok HK.out.2.2.2.2.2.1
  have eu : ((Go.Proofs.YtmjokinagbpihaaDoor.u64 c.log : Nat) : Int) = c.log := by unfold Go.Proofs.YtmjokinagbpihaaDoor.u64; omega
  have hwr := dnumber_any HG8.out (by omega) (Go.Proofs.YtmjokinagbpihaaDoor.u64 c.log) 2 (by omega)
  rw [eu] at hwr
  have HN : Hid (∀ W a2 k2, Gr w1 W a2 (n2 + 2) k2 (eN c 3 ++ numB 2 (Go.Proofs.YtmjokinagbpihaaDoor.u64 c.log)) → Gr w1 W a2 (n2 + 2) k2 (eN c 4)) := hd (fun W a2 k2 h => by simpa [eN, nmB] using h)
  clear eu HG8
  go_upto_region 17 with (go_at_call 38; refine hwr.mono ?_; rintro e w8 ⟨a6, k6, rfl, hg7, -⟩; replace hg7 := hd (HN.out _ _ _ hg7))
  clear hwr HN c5 hv
  have hn3 : n2 + 2 ≤ 98548 := by omega
  generalize n2 + 2 = n3 at *
  clear hn2
  obtain ⟨-, -, -, -, -, -, c6⟩ := HC.out w8 hg7.out.bel
  obtain ⟨a7, k7, w9, hap, hg8, -⟩ := hg7.out.push (by omega) c.procs.length
  replace hap := hd hap
  have HG7 : Hid (Gr w1 w9 a7 (n3 + 1) k7 (eP c 0)) := hd (by simpa [eP] using hg8)
  have ey : (c.procs.length : Int) % 256 = (c.procs.length : Int) := by have := HPL.out; omega
  clear hg8 hg7
  go_upto_block 4 with (at_builtin; refine wpList_append_run rfl _ _ _ rfl _ _ _ _ rfl rfl hap.out ?_; clear hap)
  clear ey c6
  go_cut [6, 9, 10, 11] (fun v6 v9 v10 v11 wy => ∃ (n : Nat) (a' : Option Addr) (k' : Nat), v6 = .slice a' n k' ∧ Hid (Gr w1 wy a' n k' (eP c c.procs.length)))
  case first =>
    go_wp2_with fail
    go_loopg [6, 9, 10, 11, 88, 89, 90, 91, 92, 93, 94, 95, 96, 97, 98, 99, 100, 101, 102, 103, 104, 105, 106, 107, 108, 109, 110, 111, 112, 113, 114, 115, 116, 117, 118, 119, 120, 121, 122, 123, 124, 125] c.procs.length (fun gg v6 v9 v10 v11 v88 v89 v90 v91 v92 v93 v94 v95 v96 v97 v98 v99 v100 v101 v102 v103 v104 v105 v106 v107 v108 v109 v110 v111 v112 v113 v114 v115 v116 v117 v118 v119 v120 v121 v122 v123 v124 v125 wr => ∃ (i n : Nat) (a' : Option Addr) (k' : Nat), i + gg = c.procs.length ∧ v9 = .int .i64 (i : Int) ∧ v6 = .slice a' n k' ∧ Hid (Gr w1 wr a' n k' (eP c i)))
    case atStart => exact ⟨0, n3 + 1, a7, k7, by omega, by go_num, rfl, HG7⟩
    case round =>
      clear HG7
      obtain ⟨i, n, a1, k1, hi, rfl, rfl, HGr⟩ := hrel
      have hn : n ≤ 98542 := by have h1 := HGr.out.len; have h2 := eP_len c HM.out i; omega
      obtain ⟨-, -, -, -, -, -, c6⟩ := HC.out wr HGr.out.bel
      by_cases h0 : gk = 0
      · subst h0
        obtain rfl : i = c.procs.length := by omega
        have hge : decide ((c.procs.length : Int) < (c.procs.length : Int)) = false := by simp
        go_wp2_with fail
        go_meet
        exact ⟨n, a1, k1, rfl, HGr⟩
      · have hlt : (i : Int) < (c.procs.length : Int) := by omega
        have hi8 : (i : Int) < 32 := by have := HPL.out; omega
        have hims : i < ms.length := by rw [HML.out]; omega
        have HRr := hd (HR.out.below HGr.out.bel)
        obtain ⟨b', o', epa', x0⟩ := HRr.out.prs _ _ (psC_at ms i hims).1
        cases epa'
        obtain ⟨b', o', epa', x1⟩ := HRr.out.prs _ _ (psC_at ms i hims).2
        cases epa'
        have hx1 : op + (i * 2 + 1) = op + i * 2 + 1 := by omega
        rw [hx1] at x1
        have HRc := hd (HR.out.cod (ms.getD i default) (by rw [List.getD_eq_getElem?_getD, List.getElem?_eq_getElem hims]; exact List.getElem_mem _))
        have HAt := hd (HRr.out.at i)
        simp only at HAt
        have HPE := hd (HK.out.2.2.2.2.2.2.2 (c.procs.getD i default) (by rw [List.getD_eq_getElem?_getD, List.getElem?_eq_getElem (show i < c.procs.length by omega)]; exact List.getElem_mem _))
        rw [← HAt.out] at HPE
        have HN : Hid (∀ W a2 k2 m, Gr w1 W a2 m k2 (eP c i ++ prB (ms.getD i default).p) → Gr w1 W a2 m k2 (eP c (i + 1))) := hd (fun W a2 k2 m h => by
          rw [HAt.out] at h
          unfold eP at h ⊢
          rw [take_flat prB c.procs i (by omega), ← List.append_assoc]
          exact h)
        clear HAt HRr hx1
        generalize ms.getD i default = m at *
        obtain ⟨⟨part, code⟩, ma, mc⟩ := m
        simp only at x0 x1 HRc HPE HN
        have hP0 : Hid ((mayL code 8).1 = 0 ∧ 0 ≤ part ∧ part < 8) := hd (by
          have h1 := HPE.out
          have h2 := HLL.out
          have h3 := rng_ok HK.out.2.2.2.2.1
          unfold prE at h1
          split at h1
          · simp at h1
          · next h4 =>
            have h5 := rng_ok (by simpa using h4)
            exact ⟨may_eight h3.2 h1, h5.1, by omega⟩)
        have hcl : code.length ≤ 256 := may_len hP0.out.1
        go_upto_region 22 with fail
        obtain ⟨wa, hwa⟩ : ∃ W, Hid (wr.alloc (.cells #[.int .i64 part, .slice ma code.length mc] 42) = W) := ⟨_, rfl⟩
        rw [hwa.out]
        have ba : Hid (Below wr.heap.size wr wa) := hd (by rw [← hwa.out]; exact below_al wr _)
        have HBx : Hid (wa.heap[wr.heap.size]? = some (.cells #[.int .i64 part, .slice ma code.length mc] 42 (0, 0))) := hd (by rw [← hwa.out]; exact heap_alloc_new wr _)
        have HNe : Hid (∀ k, blk a1 = some k → k < wr.heap.size) := hd HGr.out.row.lt
        replace HGr := hd (HGr.out.below ba.out)
        obtain ⟨Bp, hBp⟩ : ∃ B, Hid (wr.heap.size = B) := ⟨_, rfl⟩
        rw [hBp.out] at HBx HNe ⊢
        clear hwa ba hBp x0 x1 c6
        have HKb : Hid (∀ V a', GrTo wa a1 V a' → V.cell? ⟨Bp, 0, none⟩ = some (.int .i64 part) ∧ V.cell? ⟨Bp, 1, none⟩ = some (.slice ma code.length mc)) := hd (fun V a' hV => by
          have h1 := (hV.mod.block Bp (Array.getElem?_eq_some_iff.1 HBx.out).1 (fun e => by have := HNe.out Bp e; omega)).trans HBx.out
          exact ⟨cell_of_row V Bp 0 _ _ _ h1, cell_of_row V Bp 1 _ _ _ h1⟩)
        obtain ⟨a2, k2, wb, hap, hgb, htb⟩ := HGr.out.push (by omega) (Go.Proofs.YtmjokinagbpihaaDoor.u64 part % 256)
        have ey : part % 256 = ((Go.Proofs.YtmjokinagbpihaaDoor.u64 part % 256 : Nat) : Int) := by unfold Go.Proofs.YtmjokinagbpihaaDoor.u64; have := hP0.out; omega
        have HY : Hid (numB 1 (Go.Proofs.YtmjokinagbpihaaDoor.u64 part) = [Go.Proofs.YtmjokinagbpihaaDoor.u64 part % 256]) := hd (numB_one _)
        obtain ⟨y0, -⟩ := HKb.out wa a1 (GrTo.refl wa a1)
        replace hap := hd hap
        have hwr := dnumber_any hgb (by omega) code.length 2 (by omega)
        replace htb := hd htb
        generalize Go.Proofs.YtmjokinagbpihaaDoor.u64 part % 256 = y at *
        clear hgb HGr
        go_upto_region 23 with (at_builtin; refine wpList_append_run rfl _ _ _ rfl _ _ _ _ rfl rfl hap.out ?_; clear hap)
        obtain ⟨-, z1⟩ := HKb.out wb a2 htb.out
        clear y0 ey
        go_upto_block 6 with (go_at_call 38; refine hwr.mono ?_; rintro e wd ⟨a3, k3, rfl, hgc, htc⟩; replace hgc := hd hgc; replace htc := hd (htb.out.trans htc))
        clear hwr z1 htb
        generalize hEE : (eP c i ++ [y]) ++ numB 2 code.length = E0 at hgc
        have HE0 : Hid (∀ W a2 k2 m, Gr w1 W a2 m k2 (E0 ++ encB code) → Gr w1 W a2 m k2 (eP c (i + 1))) := hd (fun W a2 k2 m h => HN.out W a2 k2 m (by
          rw [← hEE] at h
          rw [prB, HY.out]
          simpa [List.append_assoc] using h))
        clear HN HY hEE
        obtain ⟨GK, rfl⟩ : ∃ x, x = gk := ⟨_, rfl⟩
        go_wp2_with fail
        go_loopg [6, 11, 112, 113, 114, 115, 116, 117, 118, 119, 120, 121, 122, 123, 124, 125] code.length (fun gg v6 v11 v112 v113 v114 v115 v116 v117 v118 v119 v120 v121 v122 v123 v124 v125 wq => ∃ (j nn : Nat) (a' : Option Addr) (k' : Nat), j + gg = code.length ∧ v11 = .int .i64 (j : Int) ∧ v6 = .slice a' nn k' ∧ nn ≤ 98542 + 3 + 12 * j ∧ Hid (Gr w1 wq a' nn k' (E0 ++ encB (code.take j)) ∧ GrTo wa a1 wq a'))
        case atStart => exact ⟨0, n + 1 + 2, a3, k3, by omega, by go_num, rfl, by omega, hd ⟨by simpa [encB] using hgc.out, htc.out⟩⟩
        case round =>
          clear hgc htc
          obtain ⟨j, nn, a4, k4, hj, rfl, rfl, hnn, HW⟩ := hrel
          obtain ⟨-, z1⟩ := HKb.out _ a4 HW.out.2
          have hg0 : gk = 0 ∨ gk ≠ 0 := by omega
          rcases hg0 with hg0 | hg0
          · subst hg0
            obtain rfl : j = code.length := by omega
            have hge : decide ((code.length : Int) < (code.length : Int)) = false := by simp
            have HX : Hid (Gr w1 wr a4 nn k4 (eP c (i + 1))) := hd (HE0.out _ _ _ _ (by
              have h1 := HW.out.1
              rw [List.take_length] at h1
              exact h1))
            go_wp2_with fail
            go_roundg (GK - 1)
            case rel => exact ⟨i + 1, nn, a4, k4, by omega, by go_num, rfl, HX⟩
            case measure => omega
          · have hltj : (j : Int) < (code.length : Int) := by omega
            obtain ⟨mb, mo, rfl, hI⟩ := (prg_of_rd (HRc.out.below HW.out.1.bel)) j (by omega)
            have hpu := dput_any HW.out.1 (by omega) (code.getD j default)
            have HZ : Hid (∀ W a' k', Gr w1 W a' (nn + 12) k' ((E0 ++ encB (code.take j)) ++ insB (code.getD j default)) → Gr w1 W a' (nn + 12) k' (E0 ++ encB (code.take (j + 1)))) := hd (fun W a' k' h => by
              unfold encB at h ⊢
              rw [take_flat insB code j (by omega), ← List.append_assoc]
              exact h)
            have HT4 := hd HW.out.2
            have x0 := hI.c0
            have x1 := hI.c1
            have x2 := hI.c2
            have x3 := hI.c3
            have x4 := hI.c4
            unfold insV at hpu
            generalize code.getD j default = x at *
            clear hI HW
            go_wp2_with (go_at_call 39; refine hpu.mono ?_; rintro e we ⟨a5, k5, rfl, hg5, ht5⟩; replace hg5 := hd (HZ.out _ _ _ hg5); replace ht5 := hd (HT4.out.trans ht5))
            go_roundg (gk - 1)
            case rel => exact ⟨j + 1, nn + 12, a5, k5, by omega, by go_num, rfl, by omega, hd ⟨hg5.out, ht5.out⟩⟩
            case measure => omega
  case rest =>
  clear HG7
  obtain ⟨n, a8, k8, rfl, HGr⟩ := hcut
  have HE : Hid (EncOut w c (.returned (.tuple #[.slice a8 n k8, .int .i64 0])) wc) := hd (by
    have h1 := HGr.out.len
    have h2 := HGr.out.row
    rw [eP_all c HM.out] at h1 h2
    refine ⟨a8, k8, by rw [h1], by rw [h1]; exact h2, fun k hk => Nat.le_trans B1.out.size (HGr.out.new k hk), B1.out.trans (HGr.out.bel.mono B1.out.size)⟩)
  go_wp2_with fail
  go_ret2
  exact HE.out

theorem denc_ok (c : Cfg) (g : Loc) (w : World) (hR : CfR w c g) (hm : (mayC c).1 = 0) :
    Calls Tryd.prog 13 #[cfV c g] w (EncOut w c) := by
  obtain ⟨h0, h1, -, -, -, -, h6, -⟩ := (mayC_iff c).1 hm
  have l1 := lab_len h0
  have l2 := tab_len h1
  have l3 := cnt_len h6
  obtain ⟨bl, ol, e1, -⟩ := rd_lab hR.lab (by omega)
  obtain ⟨bt, ot, e2, -⟩ := rd_int hR.tab (by omega)
  obtain ⟨bp, op, e3, -⟩ := hR.prs _ _ (psC_at g.ms 0 (by rw [hR.len]; omega)).1
  obtain ⟨la, lc, ta, tc, pa, pc, ms⟩ := g
  simp only at e1 e2 e3
  subst e1 e2 e3
  exact denc_go c bl ol lc bt ot tc bp op pc ms w hR hm
end Go.Proofs.YtmjokinagbpihaaDoor
