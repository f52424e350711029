/- Encode, the program's and the document's. -/
import Derived.Test.YtnkanaccacephaaSW8
import Derived.Lib.SlBytesConst
namespace Go.Proofs.Ytnkanaccacephaa
open Go.RowKit

/-- The bytes that Encode tells. -/
def encF (l : List Stp) : List Nat := if (mayS l).1 = 0 then encS l else []
/-- The bytes up to a step. -/
def eP (l : List Stp) (i : Nat) : List Nat := (hdB ++ numB 2 l.length) ++ (l.take i).flatMap stB
theorem eP_all (l : List Stp) : eP l l.length = encS l := by
  unfold eP encS
  rw [List.take_length, List.append_assoc]
theorem eP_step (l : List Stp) (i : Nat) (h : i < l.length) : eP l (i + 1) = eP l i ++ stB (l.getD i default) := by
  unfold eP
  rw [take_flat stB l i h]
  simp only [List.append_assoc]
theorem eP_len (l : List Stp) (hm : (mayS l).1 = 0) (i : Nat) : (eP l i).length ≤ 13319 := by
  have h1 := enc_len hm
  rw [← eP_all l] at h1
  have h2 := pre_len stB l i
  unfold eP at h1 ⊢
  rw [List.take_length] at h1
  rw [List.length_append] at h1 ⊢
  omega

/-- What Encode leaves. -/
def EncOut (w : World) (l : List Stp) (e : Ending) (w' : World) : Prop :=
  ∃ a' c', e = .returned (.tuple #[.slice a' (encF l).length c', .int .i64 (mayS l).1, .int .i64 (mayS l).2]) ∧ Row w' 5 1 a' (encF l).length c' (bCells (encF l)) ∧ (∀ k, blk a' = some k → w.heap.size ≤ k) ∧ Below w.heap.size w w'

theorem enc_out_no {w w' : World} {l : List Stp} (hm : (mayS l).1 ≠ 0) (hb : Below w.heap.size w w') : EncOut w l (.returned (.tuple #[.slice none 0 0, .int .i64 (mayS l).1, .int .i64 (mayS l).2])) w' := by
  have e : encF l = [] := by unfold encF; rw [if_neg hm]
  refine ⟨none, 0, ?_, ?_, (fun k hk => by cases hk), hb⟩
  · rw [e]; rfl
  · rw [e]; exact Row.nil
theorem enc_out_ok {w w' : World} {l : List Stp} {a' : Option Addr} {m c' : Nat} (hm : (mayS l).1 = 0) (hg : Gr w w' a' m c' (encS l)) : EncOut w l (.returned (.tuple #[.slice a' m c', .int .i64 0, .int .i64 0])) w' := by
  have e : encF l = encS l := by unfold encF; rw [if_pos hm]
  have hl := hg.len
  have hz := mayS_zero hm
  refine ⟨a', c', ?_, ?_, hg.new, hg.bel⟩
  · rw [e, hz, hl]
  · rw [e, hl]; exact hg.row

/-- Bytes behind bytes that have no room. -/
theorem Gr.full {w W : World} {a : Addr} {n : Nat} {bs : List Nat} (hR : Rd W (some a) (bCells bs)) (hl : bs.length = n) (hn : n ≤ 1000000000) (hb : Below w.heap.size w W) {a2 : Option Addr} {c2 m : Nat} {ms : List Nat} (hm : Rd W a2 (bCells ms)) (hml : ms.length = m) (h0 : 0 < m) (hml2 : m ≤ 1000000000) :
    ∃ a' c' W', (∀ ty, (Builtin.append_ #[27, 27] ty #[.slice (some a) n n, .slice a2 m c2]).run Try.prog W = .ok (.slice a' (n + m) c') W') ∧ Gr w W' a' (n + m) c' (bs ++ ms) := by
  obtain ⟨i, k1, k2, k3, k4⟩ := info_parts info_u8
  have hs : Src Try.prog 1 27 (.slice a2 m c2) m (bCells ms) W := Rd.src hm Try.underlying27 (by rw [bCells_len]; omega) (by omega) (bCells_one ms)
  obtain ⟨c', W', m1, m2, m3⟩ := run_append_full (P := Try.prog) _ 27 5 i _ 1 1 Try.underlying27 k1 k2 k3 k4 rfl (n := n) hR (by rw [bCells_len]; omega) _ m h0 _ hs (by unfold maxLen; omega) (by omega)
  refine ⟨_, c', W', m1, ⟨?_, fun k hk => ?_, hb.trans (m3.mono hb.size)⟩⟩
  · rw [← bCells_app]
    exact m2
  · cases hk
    exact hb.size

set_option maxRecDepth 100000 in
set_option maxHeartbeats 2000000 in
theorem written_first {w W : World} {a : Addr} {n : Nat} {bs : List Nat} (hR : Rd W (some a) (bCells bs)) (hl : bs.length = n) (hn : n ≤ 900000000) (hbw : Below w.heap.size w W) (v k : Nat) (hk : k ≤ 8) (h0 : 0 < k) :
    Calls Try.prog 20 #[.slice (some a) n n, .int .u64 (v : Int), .int .i64 (k : Int)] W fun e W' => ∃ a' c', e = .returned (.slice a' (n + k) c') ∧ Gr w W' a' (n + k) c' (bs ++ numB k v) := by
  have hs := split_any v W
  have HA : Hid (∀ W1, Below W.heap.size W W1 → ∃ a' c' W', (∀ ty, (Builtin.append_ #[27, 27] ty #[.slice (some a) n n, .slice (some ⟨W1.heap.size, 0, none⟩) k 8]).run Try.prog (W1.alloc (.cells #[.int .u8 ((v / 2 ^ 0 % 256 : Nat) : Int), .int .u8 ((v / 2 ^ 8 % 256 : Nat) : Int), .int .u8 ((v / 2 ^ 16 % 256 : Nat) : Int), .int .u8 ((v / 2 ^ 24 % 256 : Nat) : Int), .int .u8 ((v / 2 ^ 32 % 256 : Nat) : Int), .int .u8 ((v / 2 ^ 40 % 256 : Nat) : Int), .int .u8 ((v / 2 ^ 48 % 256 : Nat) : Int), .int .u8 ((v / 2 ^ 56 % 256 : Nat) : Int)] 56)) = .ok (.slice a' (n + k) c') W') ∧ Gr w W' a' (n + k) c' (bs ++ numB k v)) := hd (by
    intro W1 hb
    have hb2 := below_al W1 (.cells #[.int .u8 ((v / 2 ^ 0 % 256 : Nat) : Int), .int .u8 ((v / 2 ^ 8 % 256 : Nat) : Int), .int .u8 ((v / 2 ^ 16 % 256 : Nat) : Int), .int .u8 ((v / 2 ^ 24 % 256 : Nat) : Int), .int .u8 ((v / 2 ^ 32 % 256 : Nat) : Int), .int .u8 ((v / 2 ^ 40 % 256 : Nat) : Int), .int .u8 ((v / 2 ^ 48 % 256 : Nat) : Int), .int .u8 ((v / 2 ^ 56 % 256 : Nat) : Int)] 56)
    have hr := rd_take (rd_arr (heap_alloc_new W1 (.cells #[.int .u8 ((v / 2 ^ 0 % 256 : Nat) : Int), .int .u8 ((v / 2 ^ 8 % 256 : Nat) : Int), .int .u8 ((v / 2 ^ 16 % 256 : Nat) : Int), .int .u8 ((v / 2 ^ 24 % 256 : Nat) : Int), .int .u8 ((v / 2 ^ 32 % 256 : Nat) : Int), .int .u8 ((v / 2 ^ 40 % 256 : Nat) : Int), .int .u8 ((v / 2 ^ 48 % 256 : Nat) : Int), .int .u8 ((v / 2 ^ 56 % 256 : Nat) : Int)] 56))) k
    rw [← numB_8, numB_take k v hk] at hr
    have hb3 := hb.trans (hb2.mono hb.size)
    exact Gr.full (hR.below hb3) hl (by omega) (hbw.trans (hb3.mono hbw.size)) (c2 := 8) hr (numB_len k v) h0 (by omega))
  clear hR
  generalize v / 2 ^ 0 % 256 = y0 at *
  generalize v / 2 ^ 8 % 256 = y1 at *
  generalize v / 2 ^ 16 % 256 = y2 at *
  generalize v / 2 ^ 24 % 256 = y3 at *
  generalize v / 2 ^ 32 % 256 = y4 at *
  generalize v / 2 ^ 40 % 256 = y5 at *
  generalize v / 2 ^ 48 % 256 = y6 at *
  generalize v / 2 ^ 56 % 256 = y7 at *
  replace hbw := hd hbw
  go_enter Try.func20, Try.ntmps20
  go_upto_region 2 with (go_at_call 30; refine hs.mono ?_; rintro e w1 ⟨rfl, b1⟩)
  obtain ⟨a', c', W', hap, hg⟩ := HA.out w1 b1
  replace hap := hd hap
  replace hg := hd hg
  clear HA b1 hs
  have sl := sl8_to k hk
  go_wp2_with (at_builtin; refine wpList_append_run rfl _ _ _ rfl _ _ _ _ rfl rfl hap.out ?_; clear hap)
  go_ret
  exact ⟨a', c', rfl, hg.out⟩

theorem rd_mark (W : World) : Rd (W.alloc (.cells #[.int .u8 70, .int .u8 66, .int .u8 83, .int .u8 67, .int .u8 1] 5 (5, 6))) (some ⟨W.heap.size, 0, none⟩) (bCells hdB) := fun j u hj => ⟨_, 0, rfl, by
  rw [Nat.zero_add, cell_of_row _ _ _ _ _ _ (heap_alloc_new W _)]
  simpa [bCells, hdB] using hj⟩

/-- Five bytes in new memory. -/
theorem Gr.start {w W : World} (hb : Below w.heap.size w W) : Gr w (W.alloc (.cells #[.int .u8 70, .int .u8 66, .int .u8 83, .int .u8 67, .int .u8 1] 5)) (some ⟨W.heap.size, 0, none⟩) 5 5 hdB where
  row := by
    have := row_new (size := 1) (n := 5) (heap_alloc_new W (.cells #[.int .u8 70, .int .u8 66, .int .u8 83, .int .u8 67, .int .u8 1] 5)) rfl (by unfold maxLen; omega)
    exact this
  new := fun k hk => by cases hk; exact hb.size
  bel := hb.trans ((below_al W _).mono hb.size)
theorem Gr.cast {w W : World} {a : Option Addr} {n m c : Nat} {bs cs : List Nat} (h : Gr w W a n c bs) (hn : n = m) (hb : bs = cs) : Gr w W a m c cs := by
  subst hn hb
  exact h

/-- Bytes that are being written beside a step's own cells. -/
structure GP (w W : World) (G : Nat) (x y z : Int) (a : Option Addr) (m c : Nat) (bs : List Nat) : Prop where
  gr : Gr w W a m c bs
  box : W.heap[G]? = some (.cells #[.int .i64 x, .int .i64 y, .int .i64 z] 38 (0, 0))
  ne : blk a ≠ some G
theorem GP.start {w W : World} {a : Option Addr} {m c : Nat} {bs : List Nat} (h : Gr w W a m c bs) (x y z : Int) : GP w (W.alloc (.cells #[.int .i64 x, .int .i64 y, .int .i64 z] 38)) W.heap.size x y z a m c bs :=
  ⟨h.below (below_al W _), heap_alloc_new W _, fun e => by have := h.row.lt _ e; omega⟩
theorem GP.cells {w W : World} {G : Nat} {x y z : Int} {a : Option Addr} {m c : Nat} {bs : List Nat} (h : GP w W G x y z a m c bs) : W.cell? ⟨G, 0, none⟩ = some (.int .i64 x) ∧ W.cell? ⟨G, 1, none⟩ = some (.int .i64 y) ∧ W.cell? ⟨G, 2, none⟩ = some (.int .i64 z) :=
  ⟨cell_of_row _ _ _ _ _ _ h.box, cell_of_row _ _ _ _ _ _ h.box, cell_of_row _ _ _ _ _ _ h.box⟩
theorem GP.step {w W W' : World} {G : Nat} {x y z : Int} {a a' : Option Addr} {m c m' c' : Nat} {bs bs' : List Nat} (h : GP w W G x y z a m c bs) (hg : Gr w W' a' m' c' bs') (ht : GrTo W a W' a') : GP w W' G x y z a' m' c' bs' := by
  have hl : G < W.heap.size := (Array.getElem?_eq_some_iff.1 h.box).1
  refine ⟨hg, ?_, fun e => ?_⟩
  · rw [ht.mod.block G hl h.ne]
    exact h.box
  · rcases ht.new G e with h1 | h1
    · exact h.ne h1
    · omega
theorem written_gp {w W : World} {G : Nat} {x y z : Int} {a : Option Addr} {m c : Nat} {bs : List Nat} (h : GP w W G x y z a m c bs) (hm : m ≤ 900000000) (v k : Nat) (hk : k ≤ 8) :
    Calls Try.prog 20 #[.slice a m c, .int .u64 (v : Int), .int .i64 (k : Int)] W fun e W' => ∃ a' c', e = .returned (.slice a' (m + k) c') ∧ GP w W' G x y z a' (m + k) c' (bs ++ numB k v) :=
  (written_any h.gr hm v k hk).mono fun _ _ ⟨a', c', h1, h2, h3⟩ => ⟨a', c', h1, h.step h2 h3⟩

set_option maxRecDepth 100000 in
set_option maxHeartbeats 4000000 in
theorem encode_any (a : Option Addr) (cap : Nat) (l : List Stp) (w : World) (hP : Rd w a (sCells l)) (hcap : l.length ≤ 9223372036854775807) :
    Calls Try.prog 11 #[.slice a l.length cap] w (EncOut w l) := by
  have hmay := may_any a cap l w hP hcap
  by_cases hm : (mayS l).1 = 0
  · have hz := mayS_zero hm
    rw [hz] at hmay
    have hlen := ((mayS_iff l).1 hm).1
    have HFa := hd ((mayS_iff l).1 hm).2
    have HM := hd hm
    have HP := hd hP
    have HE : Hid (∀ (W : World) (a' : Option Addr) (m c' : Nat), Gr w W a' m c' (eP l l.length) → EncOut w l (.returned (.tuple #[.slice a' m c', .int .i64 0, .int .i64 0])) W) := hd (fun W a' m c' hg => enc_out_ok hm (hg.cast rfl (eP_all l)))
    have HL : Hid (∀ i, (eP l i).length ≤ 13319) := hd (eP_len l hm)
    have HW : Hid (∀ (W : World), Below w.heap.size w W → Calls Try.prog 20 #[.slice (some ⟨W.heap.size, 0, none⟩) 5 5, .int .u64 (l.length : Int), .int .i64 2] (W.alloc (.cells #[.int .u8 70, .int .u8 66, .int .u8 83, .int .u8 67, .int .u8 1] 5 (5, 6))) fun e W' => ∃ a' c', e = .returned (.slice a' 7 c') ∧ Gr w W' a' 7 c' (eP l 0)) := hd (fun W hb => (written_first (bs := hdB) (n := 5) (rd_mark W) rfl (by omega) (hb.trans ((below_al W _).mono hb.size)) l.length 2 (by omega) (by omega)).mono fun _ _ ⟨a', c', h1, h2⟩ => ⟨a', c', h1, h2.cast rfl (by unfold eP; rw [List.take_zero, List.flatMap_nil, List.append_nil])⟩)
    clear hz hm hP
    go_enter Try.func11, Try.ntmps11
    go_upto_region 4 with (go_at_call 9; refine hmay.mono ?_; rintro e w1 ⟨rfl, b1⟩)
    have hw0 := HW.out w1 b1
    clear hmay HW b1
    have hcv : (convert 27 27 (.slice (some ⟨w1.heap.size, 0, none⟩) 5 5)).run Try.prog (w1.alloc (.cells #[.int .u8 70, .int .u8 66, .int .u8 83, .int .u8 67, .int .u8 1] 5)) = .ok (.slice (some ⟨w1.heap.size, 0, none⟩) 5 5) (w1.alloc (.cells #[.int .u8 70, .int .u8 66, .int .u8 83, .int .u8 67, .int .u8 1] 5 (5, 6))) := Lib.run_convert_bytes_const (P := Try.prog) w1 27 5 #[.int .u8 70, .int .u8 66, .int .u8 83, .int .u8 67, .int .u8 1] 5 5 Try.underlying27 Try.underlying5
    go_upto_region 6 with (go_at_call 20; refine hw0.mono ?_; rintro e w2 ⟨a2, c2, rfl, g2⟩; replace g2 := hd g2)
    clear hw0 hcv
    go_wp2_with fail
    go_loopg [7, 9, 28, 29, 30, 31, 32, 33, 34, 35, 36, 37, 38, 39, 40, 41, 42, 43, 44, 45, 46, 47, 48, 49, 50] l.length (fun g v7 v9 v28 v29 v30 v31 v32 v33 v34 v35 v36 v37 v38 v39 v40 v41 v42 v43 v44 v45 v46 v47 v48 v49 v50 wr => ∃ (i : Nat) (a1 : Option Addr) (m c1 : Nat), i + g = l.length ∧ v28 = .int .i64 (i : Int) ∧ v7 = .slice a1 m c1 ∧ Hid (Gr w wr a1 m c1 (eP l i)))
    case atStart => exact ⟨0, a2, 7, c2, by omega, by go_num, rfl, g2⟩
    case round =>
      obtain ⟨i, a1, m, c1, hi, rfl, rfl, hg⟩ := hrel
      clear g2
      by_cases hg0 : gk = 0
      · subst hg0
        obtain rfl : i = l.length := by omega
        have hd0 : decide ((l.length : Int) < (l.length : Int)) = false := by simp
        have HZ := hd (HE.out wr a1 m c1 hg.out)
        clear HE hg
        go_wp2_with fail
        go_ret3
        exact HZ.out
      · have hlt : i < l.length := by omega
        have hlt' : (i : Int) < (l.length : Int) := by omega
        have hm1 := hg.out.len
        have hm2 := HL.out i
        have hst := eP_step l i hlt
        have hfa := HFa.out (l.getD i default) (by rw [List.getD_eq_getElem?_getD, List.getElem?_eq_getElem hlt]; exact List.getElem_mem hlt)
        obtain ⟨b, off, rfl, k0, k1, k2⟩ := step_at (HP.out.below hg.out.bel) i hlt
        have hkb : 1 ≤ (l.getD i default).k ∧ (l.getD i default).k ≤ 3 ∧ 0 ≤ (l.getD i default).n ∧ (l.getD i default).n ≤ 4294967295 := by
          unfold faultS at hfa
          split at hfa
          · cases hfa
          · split at hfa
            · cases hfa
            · omega
        have hst' := hd hst
        unfold stB tailB at hst
        clear hfa
        have HN : Hid (∀ (W' : World) (a' : Option Addr) (m' c' : Nat), Gr w W' a' m' c' (eP l i ++ (numB 1 (u64 (l.getD i default).k) ++ (numB 4 (u64 (l.getD i default).n) ++ tailB (l.getD i default)))) → Gr w W' a' m' c' (eP l (i + 1))) := hd (fun W' a' m' c' h => h.cast rfl hst'.out.symm)
        unfold tailB at HN
        clear hst hst'
        generalize eP l i = E at *
        generalize (l.getD i default).k = x at *
        generalize (l.getD i default).n = y at *
        generalize (l.getD i default).v = z at *
        have hgp : GP w (wr.alloc (.cells #[.int .i64 x, .int .i64 y, .int .i64 z] 38)) wr.heap.size x y z a1 m c1 E := GP.start hg.out x y z
        have HW := hd (fun (W : World) (a1 : Option Addr) (m c1 : Nat) (E : List Nat) (hm : m ≤ 900000000) (hw : GP w W wr.heap.size x y z a1 m c1 E) => written_gp hw hm)
        clear hg
        obtain ⟨G, hG⟩ : ∃ G, Hid (wr.heap.size = G) := ⟨_, rfl⟩
        rw [hG.out] at hgp HW
        obtain ⟨w3, hw3⟩ : ∃ W, Hid (wr.alloc (.cells #[.int .i64 x, .int .i64 y, .int .i64 z] 38) = W) := ⟨_, rfl⟩
        go_upto_region 9 with fail
        rw [hw3.out] at hgp ⊢
        rw [hG.out]
        clear hw3 hG k0 k1 k2
        obtain ⟨xn, rfl⟩ : ∃ xn : Nat, x = (xn : Int) := ⟨x.toNat, by omega⟩
        obtain ⟨yn, rfl⟩ : ∃ yn : Nat, y = (yn : Int) := ⟨y.toNat, by omega⟩
        have ux : u64 (xn : Int) = xn := u64_nat xn (by omega)
        have uy : u64 (yn : Int) = yn := u64_nat yn (by omega)
        rw [ux, uy] at HN
        have hwa := HW.out w3 a1 m c1 E (by omega) hgp xn 1 (by omega)
        have c0 := hgp.cells.1
        replace hgp := hd hgp
        go_upto_region 10 with (go_at_call 20; refine hwa.mono ?_; rintro e w4 ⟨a4, c4, rfl, hgp4⟩)
        have hwb := HW.out w4 a4 (m + 1) c4 _ (by omega) hgp4 yn 4 (by omega)
        clear hwa c0 hgp
        have c1' := hgp4.cells.2.1
        replace hgp4 := hd hgp4
        go_upto_region 11 with (go_at_call 20; refine hwb.mono ?_; rintro e w5 ⟨a5, c5, rfl, hgp5⟩)
        have c0 := hgp5.cells.1
        clear hwb c1' hgp4
        have hv := hasV_any (xn : Int)
        by_cases h2 : xn = 2
        · have hv' : ((xn : Int) == 2) = true := by simp; omega
          rw [hv'] at hv
          have hwc := HW.out w5 a5 (m + 1 + 4) c5 _ (by omega) hgp5 (u64 z) 8 (by omega)
          have c2 := hgp5.cells.2.2
          rw [if_pos (by omega)] at HN
          have ez := mod_u64 z
          have ez' : IntKind.u64.wrap z = (u64 z : Int) := by rw [wrap_u64, ez]
          clear HW
          replace hgp5 := hd hgp5
          replace h2 := hd h2
          go_wp2_with (first | (go_at_call 21; refine (hv _).mono ?_; rintro e w5 ⟨rfl, rfl⟩) | (go_at_call 20; refine hwc.mono ?_; rintro e w6 ⟨a6, c6, rfl, hgp6⟩; replace hgp6 := hd hgp6))
          go_roundg (gk - 1)
          case rel => exact ⟨i + 1, a6, m + 1 + 4 + 8, c6, by omega, by go_num, rfl, hd (HN.out w6 a6 _ c6 (hgp6.out.gr.cast rfl (by simp only [List.append_assoc])))⟩
          case measure => omega
        · have hv' : ((xn : Int) == 2) = false := by simp; omega
          rw [hv'] at hv
          rw [if_neg (by omega)] at HN
          clear HW
          replace hgp5 := hd hgp5
          replace h2 := hd h2
          go_wp2_with (first | (go_at_call 21; refine (hv _).mono ?_; rintro e w5 ⟨rfl, rfl⟩))
          go_roundg (gk - 1)
          case rel => exact ⟨i + 1, a5, m + 1 + 4, c5, by omega, by go_num, rfl, hd (HN.out w5 a5 _ c5 (hgp5.out.gr.cast rfl (by simp only [List.append_assoc, List.append_nil])))⟩
          case measure => omega
  · have hm' : ((mayS l).1 == 0) = false := by simpa using hm
    have HE : Hid (∀ w', Below w.heap.size w w' → _) := hd (fun w' hb => enc_out_no (w := w) (w' := w') hm hb)
    generalize (mayS l).1 = E at *
    generalize (mayS l).2 = D at *
    clear hm
    go_enter Try.func11, Try.ntmps11
    go_wp2_with (go_at_call 9; refine hmay.mono ?_; rintro e w1 ⟨rfl, b1⟩)
    go_ret3
    exact HE.out w1 b1
end Go.Proofs.Ytnkanaccacephaa
