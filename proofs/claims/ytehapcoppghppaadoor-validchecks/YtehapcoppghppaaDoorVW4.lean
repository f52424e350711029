/- measure: the units of rows. -/
import Derived.Test.YtehapcoppghppaaDoorVW3
import Derived.Test.YtehapcoppghppaaDoorVM4
namespace Go.Proofs.YtehapcoppghppaaDoor
open Go.RowKit

def iF (G : Nat → Int) : Nat → Value := fun j => .int .i64 (G j)
theorem grown_below {w w' : World} {r : Option Nat} (hb : Below w.heap.size w w') : w.grownBy w' r := ⟨hb.os, hb.tape, hb.output, hb.size, fun k hk _ => hb.block k hk⟩
theorem grown_trans {a b c : World} {r q : Option Nat} (h : a.grownBy b r) (k : b.grownBy c q) (hq : ∀ g, q = some g → r = some g ∨ a.heap.size ≤ g) : a.grownBy c r :=
  ⟨k.os.trans h.os, k.tape.trans h.tape, k.output.trans h.output, Nat.le_trans h.size k.size, fun i hi hr => (k.block i (Nat.lt_of_lt_of_le hi h.size) (fun e => by
    rcases hq i e.symm with h1 | h1
    · exact hr h1.symm
    · omega)).trans (h.block i hi hr)⟩

/-- What measure has in hand: the units, and the row. -/
structure MS (w wr : World) (B gu M : Nat) (G : Nat → Int) (gt cap : Nat) (ts : List (Nat × Nat)) : Prop where
  units : Arr wr B gu 3 M (iF G)
  row : Sts wr w.heap.size (.slice (some ⟨gt, 0, none⟩) ts.length cap) ts
  gul : gu < w.heap.size
  grow : w.grownBy wr (some gu)

section
variable {w wr w' : World} {B gu M gt cap : Nat} {G : Nat → Int} {ts : List (Nat × Nat)}
theorem MS.gtl (h : MS w wr B gu M G gt cap ts) : w.heap.size ≤ gt ∧ gt < wr.heap.size := World.ownsRow.lt h.row gt rfl
theorem MS.after (h : MS w wr B gu M G gt cap ts) (hb : Below wr.heap.size wr w') : MS w w' B gu M G gt cap ts :=
  ⟨h.units.kept hb, h.row.kept hb, h.gul, grown_trans h.grow (grown_below (r := none) hb) (fun g hg => by cases hg)⟩
theorem MS.put (h : MS w wr B gu M G gt cap ts) (t : Nat) (x : Int) : MS w (wr.setCell ⟨gu, t, none⟩ (.int .i64 x)) B gu M (upd G t x) gt cap ts := by
  obtain ⟨h1, h2⟩ := h.units.put t (.int .i64 x)
  refine ⟨h1.ext fun i _ => ?_, h.row.grown h2 (.inr ?_), h.gul, grown_trans h.grow h2 (fun g hg => .inl hg)⟩
  · unfold iF upd
    by_cases e : i = t
    · simp [e]
    · simp [e]
  · simp only [Value.ownBlock]
    intro e
    have := Option.some.inj e
    have := h.gtl
    have := h.gul
    omega
theorem MS.pop {t : Nat × Nat} (h : MS w wr B gu M G gt cap (ts ++ [t])) : MS w wr B gu M G gt cap ts :=
  ⟨h.units, sts_pop (t := t) (by have := h.row; rwa [List.length_append, List.length_singleton] at this), h.gul, h.grow⟩
theorem MS.push {n g4 c4 : Nat} {t : Nat × Nat} (h : MS w wr B gu M G gt cap ts) (hn : n = ts.length)
    (o : w'.ownsRow w.heap.size 53 2 (.slice (some ⟨g4, 0, none⟩) (n + 1) c4) (n + 1) (sCells ts ++ stC t)) (gr : wr.grownBy w' (some gt)) : MS w w' B gu M G g4 c4 (ts ++ [t]) := by
  refine ⟨h.units.grown gr (fun e => ?_), by have := sts_push o hn; rwa [← List.length_singleton (a := t), ← List.length_append] at this, h.gul, ?_⟩
  · have := Option.some.inj e
    have := h.gtl
    have := h.gul
    omega
  · exact grown_trans h.grow gr (fun g hg => by cases hg; exact .inr h.gtl.1)
theorem MS.top {p s : Nat} (h : MS w wr B gu M G gt cap (ts ++ [(p, s)])) :
    wr.cell? ⟨gt, ts.length * 2, none⟩ = some (.int .i64 p) ∧ wr.cell? ⟨gt, ts.length * 2 + 1, none⟩ = some (.int .i64 s) ∧ ts.length + 1 ≤ cap := by
  obtain ⟨a, c, h1, h2, h3⟩ := h.row.form
  simp only [Value.slice.injEq] at h1
  obtain ⟨rfl, _, rfl⟩ := h1
  obtain ⟨g', e, _, h4, h5⟩ := h3 ts.length (by simp)
  cases e
  simp only [List.length_append, List.length_singleton] at h2
  have e : (ts ++ [(p, s)]).getD ts.length (0, 0) = (p, s) := by simp [List.getD_eq_getElem?_getD]
  rw [e] at h4 h5
  exact ⟨h4, h5, h2⟩
end

/-- What measure leaves. -/
def MPost (l : List Ins) (w : World) (B gu M n : Nat) (w' : World) : Prop :=
  ∃ G, Arr w' B gu 3 M (iF G) ∧ UInv l G ∧ G n ≠ 0 ∧ (∀ i, 0 ≤ G i ∧ G i ≤ INF) ∧ w.grownBy w' (some gu)

set_option maxRecDepth 100000 in
set_option maxHeartbeats 4000000 in
theorem measure_any (w0 : World) (a : Option Addr) (cap : Nat) (l : List Ins) (p0 s0 gu M : Nat) (G0 : Nat → Int) (w : World) (hP : Prg w0 a l) (ok : Ok l) (hM : 256 * (l.length + 1) = M) (hb0 : Below w0.heap.size w0 w)
    (hW : ∀ n, Rch l n → wrE l n = 0) (hr : Rch l (256 * p0 + s0)) (hs0 : s0 < 256) (hp0 : p0 ≤ l.length) (hA : Arr w w0.heap.size gu 3 M (iF G0)) (hU : UInv l G0) (hG : ∀ i, 0 ≤ G0 i ∧ G0 i ≤ INF) :
    Calls Tryd.prog 21 #[.slice a l.length cap, stV (p0, s0), .slice (some ⟨gu, 0, none⟩) M M] w fun e w' => e = .returned (.tuple #[]) ∧ MPost l w w0.heap.size gu M (256 * p0 + s0) w' := by
  obtain ⟨i1, hi1, hy0, hy1, hy2⟩ := info_parts infoS
  have HP : Hid (Prg w0 a l) := hP
  have HO : Hid (Ok l) := ok
  have HL : Hid (l.length ≤ 256) := ok.len
  have HW : Hid (∀ n, Rch l n → wrE l n = 0) := hW
  have HG : Hid (∀ i, 0 ≤ G0 i ∧ G0 i ≤ INF) := hG
  have HU : Hid (UInv l G0) := hU
  have HRc : Hid (Rch l (256 * p0 + s0)) := hr
  have hFo := fun (W : World) (h : Below w0.heap.size w0 W) (p s : Nat) (hs : s < 256) (hp : p ≤ l.length) => follow_any a cap l p s W (HP.out.kept h) HO.out hs hp
  have hIx0 := fun (W : World) => index_any p0 s0 W hs0 (by have := HL.out; omega)
  obtain ⟨N, hN⟩ : ∃ N, Hid (l.length = N) := ⟨_, rfl⟩
  rw [hN.out] at hFo HL hp0 hM ⊢
  have hN256 := HL.out
  have hM1 : M ≤ 70000 := by omega
  have HM : Hid (256 * (N + 1) = M) := hM
  have hnM : 256 * p0 + s0 < M := by omega
  obtain ⟨n0, hn0⟩ : ∃ n0, Hid (256 * p0 + s0 = n0) := ⟨_, rfl⟩
  rw [hn0.out] at hnM HRc hIx0 ⊢
  have hnM' : (n0 : Int) < (M : Int) := by omega
  obtain ⟨Q, hQ⟩ : ∃ Q : World → Prop, Hid (MPost l w w0.heap.size gu M n0 = Q) := ⟨_, rfl⟩
  rw [hQ.out]
  have B1 : ∀ ob, Below w.heap.size w (w.alloc ob) := fun ob => (Below.refl w.heap.size w).alloc (Nat.le_refl _) ob
  have hul : gu < w.heap.size := hA.lt.2
  have hAw : Hid (Arr (w.alloc (.cells #[.int .i64 p0, .int .i64 s0] 53)) w0.heap.size gu 3 M (iF G0)) := hd (hA.kept (B1 _))
  have z0 : (w.alloc (.cells #[.int .i64 p0, .int .i64 s0] 53)).cell? ⟨w.heap.size, 0, none⟩ = some (.int .i64 p0) := by rw [cell_of_row _ _ _ _ _ _ (heap_alloc_new w _)]; rfl
  have z1 : (w.alloc (.cells #[.int .i64 p0, .int .i64 s0] 53)).cell? ⟨w.heap.size, 1, none⟩ = some (.int .i64 s0) := by rw [cell_of_row _ _ _ _ _ _ (heap_alloc_new w _)]; rfl
  have zl : w.heap.size < (w.alloc (.cells #[.int .i64 p0, .int .i64 s0] 53)).heap.size := by simp
  have BA := B1 (.cells #[.int .i64 p0, .int .i64 s0] 53)
  clear hP ok hW hG hU hr hM
  unfold stV
  simp only
  go_enter Tryd.func21, Tryd.ntmps21
  go_wp2_with fail
  go_step3
  go_upto_region 1 with fail
  obtain ⟨wA, hwA⟩ : ∃ wA, Hid (w.alloc (.cells #[.int .i64 p0, .int .i64 s0] 53) = wA) := ⟨_, rfl⟩
  rw [hwA.out] at hAw z0 z1 zl BA ⊢
  have hIA := hIx0 wA
  unfold stV at hIA
  by_cases hg0 : G0 n0 = 0
  · go_upto_region 2 with (go_at_call 20; refine hIA.mono ?_; rintro e2 w2 ⟨rfl, b2⟩; have HA2 := hd (hAw.out.kept b2); have cs := HA2.out.cell n0 hnM; unfold iF at cs; rw [hg0] at cs)
    have y0 := (b2.cell zl).trans z0
    have y1 := (b2.cell zl).trans z1
    have yl := Nat.lt_of_lt_of_le zl b2.size
    have BW2 := BA.trans (b2.mono BA.size)
    have hI2 := hIx0 w2
    unfold stV at hI2
    clear cs b2 z0 z1 zl hIA hAw BA
    go_upto_region 3 with (go_at_call 20; refine hI2.mono ?_; rintro e3 w3 ⟨rfl, b3⟩; have HA3 := hd (HA2.out.kept b3); have cs := HA3.out.cell n0 hnM; unfold iF at cs; have fz := HA3.out.free n0)
    have BW3 := BW2.trans (b3.mono BW2.size)
    have x0 : (w3.setCell ⟨gu, n0, none⟩ (.int .i64 9223372036854775807)).cell? ⟨w.heap.size, 0, none⟩ = some (.int .i64 p0) := (HA3.out.put n0 (.int .i64 9223372036854775807)).2.cell ((b3.cell yl).trans y0) (by simp; omega)
    have x1 : (w3.setCell ⟨gu, n0, none⟩ (.int .i64 9223372036854775807)).cell? ⟨w.heap.size, 1, none⟩ = some (.int .i64 s0) := (HA3.out.put n0 (.int .i64 9223372036854775807)).2.cell ((b3.cell yl).trans y1) (by simp; omega)
    have HS : Hid (MS w ((w3.setCell ⟨gu, n0, none⟩ (.int .i64 9223372036854775807)).alloc (.cells #[.int .i64 p0, .int .i64 s0] 53)) w0.heap.size gu M (upd G0 n0 INF) (w3.setCell ⟨gu, n0, none⟩ (.int .i64 9223372036854775807)).heap.size 1 [(p0, s0)]) := hd (by
      obtain ⟨h1, h2⟩ := HA3.out.put n0 (.int .i64 9223372036854775807)
      have hsz := Nat.le_trans BW3.size h2.size
      refine ⟨Arr.kept (h1.ext fun i _ => ?_) ((Below.refl _ _).alloc (Nat.le_refl _) _), sts_one hsz rfl rfl rfl, hul, ?_⟩
      · unfold iF upd
        by_cases e : i = n0
        · simp [e, INF]
        · simp [e]
      · exact grown_trans (grown_trans (grown_below (r := some gu) BW3) h2 (fun g hg => .inl hg)) (grown_below (r := none) ((Below.refl _ _).alloc (Nat.le_refl _) _)) (fun g hg => by cases hg))
    obtain ⟨w4, hw4⟩ : ∃ w4, Hid (w3.setCell ⟨gu, n0, none⟩ (.int .i64 9223372036854775807) = w4) := ⟨_, rfl⟩
    rw [hw4.out] at HS x0 x1 ⊢
    have HMI : Hid (MInv l (upd G0 n0 INF) [n0]) := hd (MInv.start HU.out HRc.out)
    have HG1 : Hid (∀ i, 0 ≤ upd G0 n0 INF i ∧ upd G0 n0 INF i ≤ INF) := hd (fun i => by
      unfold upd
      split
      · exact ⟨by decide, Int.le_refl _⟩
      · exact HG.out i)
    have HN1 : Hid (upd G0 n0 INF n0 ≠ 0) := hd (by rw [upd_self]; exact INF_ne)
    obtain ⟨G1, hG1⟩ : ∃ G1, Hid (upd G0 n0 INF = G1) := ⟨_, rfl⟩
    have HK0 : Hid (left (nz G1) M ≤ M) := hd (left_le _ M)
    rw [hG1.out] at HS HMI HG1 HN1
    clear cs fz y0 y1 b3 HA3 HA2 hI2 BW2 BW3 hg0 yl
    go_wp2_with fail
    go_step3
    go_wp2_with fail
    go_loopg [6] (2 * left (nz G1) M + 1) (fun k v6 wr => ∃ (gt c : Nat) (ts : List (Nat × Nat)) (G : Nat → Int), v6 = .slice (some ⟨gt, 0, none⟩) ts.length c ∧ Hid (MS w wr w0.heap.size gu M G gt c ts ∧ MInv l G ((ts.map num).reverse) ∧ (∀ t ∈ ts, t.2 < 256 ∧ t.1 ≤ N) ∧ (∀ i, 0 ≤ G i ∧ G i ≤ INF) ∧ G n0 ≠ 0 ∧ 2 * left (nz G) M + ts.length = k ∧ k ≤ 2 * M + 1))
    case atStart => exact ⟨_, 1, [(p0, s0)], G1, rfl, hd ⟨HS.out, by simp [num]; rw [hn0.out]; exact HMI.out, by simp; exact ⟨hs0, hp0⟩, HG1.out, HN1.out, rfl, by have := HK0.out; omega⟩⟩
    case round =>
      obtain ⟨gt, c, ts, G, rfl, HR⟩ := hrel
      clear HS HMI HG1 HN1 hG1 x0 x1
      rcases List.eq_nil_or_concat ts with rfl | ⟨ts', ⟨p, s⟩, rfl⟩
      · simp only [List.length_nil]
        have HF : Hid (Q wr) := hd (by
          obtain ⟨r1, r2, r3, r4, r5, r6⟩ := HR.out
          rw [← hQ.out]
          exact ⟨G, r1.units, r2.done, r5, r4, r1.grow⟩)
        go_wp2_with fail
        rw [Exit.noGoto_normal]
        exact bodyPost_end (results_none rfl _ _ _) rfl ⟨rfl, HF.out⟩
      · rw [List.concat_eq_append] at *
        simp only [List.length_append, List.length_singleton]
        obtain ⟨m, hm⟩ : ∃ m, Hid (ts'.length = m) := ⟨_, rfl⟩
        obtain ⟨t0, t1, tc⟩ := HR.out.1.top
        obtain ⟨ps, pp⟩ := HR.out.2.2.1 (p, s) (by simp)
        simp only at ps pp
        rw [hm.out] at t0 t1 tc ⊢
        have HMI : Hid (MInv l G ((256 * p + s) :: (ts'.map num).reverse)) := hd (by
          have := HR.out.2.1
          simpa [num] using this)
        have HT : Hid (∀ t ∈ ts', t.2 < 256 ∧ t.1 ≤ N) := hd (fun t ht => HR.out.2.2.1 t (by simp [ht]))
        have HGb : Hid (∀ i, 0 ≤ G i ∧ G i ≤ INF) := hd HR.out.2.2.2.1
        have HGn : Hid (G n0 ≠ 0) := hd HR.out.2.2.2.2.1
        have HK : Hid (2 * left (nz G) M + m + 1 = gk ∧ gk ≤ 2 * M + 1) := hd (by
          have h1 := HR.out.2.2.2.2.2.1
          rw [List.length_append, List.length_singleton, hm.out] at h1
          exact ⟨by omega, HR.out.2.2.2.2.2.2⟩)
        have hmb : m ≤ 200000 := by have := HK.out; omega
        have hp1 : (0 : Int) < (m : Int) + 1 := by omega
        have hm1 : m < m + 1 := by omega
        have BR : Hid (Below w0.heap.size w0 wr) := hd (hb0.grown HR.out.1.grow hb0.size (fun k hk => by cases hk; exact hA.lt.1))
        have HS5 : Hid (MS w (wr.alloc (.cells #[.int .i64 p, .int .i64 s] 53)) w0.heap.size gu M G gt c (ts' ++ [(p, s)])) := hd (HR.out.1.after ((Below.refl _ wr).alloc (Nat.le_refl _) _))
        have s0' : (wr.alloc (.cells #[.int .i64 p, .int .i64 s] 53)).cell? ⟨wr.heap.size, 0, none⟩ = some (.int .i64 p) := by rw [cell_of_row _ _ _ _ _ _ (heap_alloc_new wr _)]; rfl
        have s1' : (wr.alloc (.cells #[.int .i64 p, .int .i64 s] 53)).cell? ⟨wr.heap.size, 1, none⟩ = some (.int .i64 s) := by rw [cell_of_row _ _ _ _ _ _ (heap_alloc_new wr _)]; rfl
        have sl : wr.heap.size < (wr.alloc (.cells #[.int .i64 p, .int .i64 s] 53)).heap.size := by simp
        have hF := hFo (wr.alloc (.cells #[.int .i64 p, .int .i64 s] 53)) (BR.out.alloc BR.out.size _) p s ps pp
        have hwe : Hid (wrP l p s = 0) := hd (by
          rw [← wrE_num l ps]
          exact HW.out _ (HMI.out.rch _ (by simp)))
        have hfl : Hid (∀ t ∈ folP l p s, t.1 ≤ N ∧ t.2 < 256) := hd (fun t ht => by have := folP_lt HO.out ps ht; rwa [hN.out] at this)
        have hnx : Hid (∀ n, n ∈ nx l (256 * p + s) ↔ ∃ t ∈ folP l p s, t.2 ≠ 0 ∧ num t = n) := hd (nx_num ps hwe.out (fun t ht => (hfl.out t ht).2))
        have HLf : Hid ((folP l p s).length ≤ 2) := hd (folP_len l p s)
        obtain ⟨fs, hfs⟩ : ∃ fs, folP l p s = fs := ⟨_, rfl⟩
        rw [hfs] at hF hnx hfl HLf
        have hfl2 : fs.length ≤ 2 := HLf.out
        unfold stV at hF
        have hul' : wr.heap.size ≠ gu := by have := HR.out.1.grow.size; omega
        obtain ⟨hs, hhs⟩ : ∃ hs, Hid (wr.heap.size = hs) := ⟨_, rfl⟩
        clear hfs HR BR hwe HLf
        go_upto_region 6 with fail
        obtain ⟨w5, hw5⟩ : ∃ w5, Hid (wr.alloc (.cells #[.int .i64 p, .int .i64 s] 53) = w5) := ⟨_, rfl⟩
        rw [hw5.out] at HS5 s0' s1' sl hF ⊢
        rw [hhs.out] at s0' s1' sl hul' ⊢
        clear t0 t1 hw5 hhs
        go_wp2_with (first | (go_at_call 29; refine hF.mono ?_; rintro e6 w6 ⟨v, rfl, o6, b6⟩; obtain ⟨af, cf, rfl, hcf, C6⟩ := o6.form))
        have y0 := (b6.cell sl).trans s0'
        have y1 := (b6.cell sl).trans s1'
        have yl := Nat.lt_of_lt_of_le sl b6.size
        have HS6 : Hid (MS w w6 w0.heap.size gu M G gt c (ts' ++ [(p, s)]) ∧ Sts w6 w5.heap.size (.slice af fs.length cf) fs ∧ w6.cell? ⟨hs, 0, none⟩ = some (.int .i64 p) ∧ w6.cell? ⟨hs, 1, none⟩ = some (.int .i64 s) ∧ hs < w6.heap.size) := hd ⟨HS5.out.after b6, o6, y0, y1, yl⟩
        clear C6 o6 b6 hF HS5 s0' s1' sl y0 y1 yl
        go_loopg [6, 8, 36] (fs.length) (fun k v6 v8 v36 wi => ∃ (i : Nat) (z : Int), v6 = .slice (some ⟨gt, 0, none⟩) (m + 1) c ∧ v8 = .int .i64 z ∧ v36 = .int .i64 (i : Int) ∧ i + k = fs.length ∧
          Hid ((MS w wi w0.heap.size gu M G gt c (ts' ++ [(p, s)]) ∧ Sts wi w5.heap.size (.slice af fs.length cf) fs ∧ wi.cell? ⟨hs, 0, none⟩ = some (.int .i64 p) ∧ wi.cell? ⟨hs, 1, none⟩ = some (.int .i64 s) ∧ hs < wi.heap.size) ∧
            0 ≤ z ∧ z ≤ INF ∧ (∀ j, j < i → (fs.getD j (0, 0)).2 ≠ 0 → G (num (fs.getD j (0, 0))) ≠ 0 ∧ G (num (fs.getD j (0, 0))) ≤ z) ∧ (z = 0 ∨ ∃ j, j < i ∧ (fs.getD j (0, 0)).2 ≠ 0 ∧ G (num (fs.getD j (0, 0))) = z)))
        case atStart => exact ⟨0, 0, rfl, rfl, rfl, by omega, hd ⟨HS6.out, by omega, by decide, fun j hj => absurd hj (Nat.not_lt_zero j), .inl rfl⟩⟩
        case round =>
          obtain ⟨i, z, rfl, rfl, rfl, hik, HH⟩ := hrel
          clear HS6
          by_cases hlt : i < fs.length
          · have hlt' : (i : Int) < (fs.length : Int) := by omega
            obtain ⟨⟨HS, o6, y0, y1, yl⟩, z0, z1, HA1, HA2⟩ := HH.out
            obtain ⟨a', c2, e', hc2, C6⟩ := o6.form
            obtain ⟨gf, ea, hgf, c0, c1⟩ := C6 i hlt
            simp only [Value.slice.injEq] at e'
            obtain ⟨rfl, -, rfl⟩ := e'
            subst ea
            have ht := hfl.out (fs.getD i (0, 0)) (by rw [List.getD_eq_getElem?_getD, List.getElem?_eq_getElem hlt]; exact List.getElem_mem hlt)
            have htm : Hid (fs.getD i (0, 0) ∈ fs) := hd (by rw [List.getD_eq_getElem?_getD, List.getElem?_eq_getElem hlt]; exact List.getElem_mem hlt)
            obtain ⟨⟨tp, tq⟩, htq⟩ : ∃ t, Hid (fs.getD i (0, 0) = t) := ⟨_, rfl⟩
            rw [htq.out] at c0 c1 ht htm
            obtain ⟨ht1, ht2⟩ := ht
            simp only at c0 c1 ht1 ht2
            have BQ : Below wr.heap.size wr (wr.alloc (.cells #[.int .i64 tp, .int .i64 tq] 53)) := (Below.refl _ _).alloc (Nat.le_refl _) _
            have HA : Hid (MS w (wr.alloc (.cells #[.int .i64 tp, .int .i64 tq] 53)) w0.heap.size gu M G gt c (ts' ++ [(p, s)]) ∧ Sts (wr.alloc (.cells #[.int .i64 tp, .int .i64 tq] 53)) w5.heap.size (.slice (some ⟨gf, 0, none⟩) fs.length cf) fs ∧ (wr.alloc (.cells #[.int .i64 tp, .int .i64 tq] 53)).cell? ⟨hs, 0, none⟩ = some (.int .i64 p) ∧ (wr.alloc (.cells #[.int .i64 tp, .int .i64 tq] 53)).cell? ⟨hs, 1, none⟩ = some (.int .i64 s) ∧ hs < (wr.alloc (.cells #[.int .i64 tp, .int .i64 tq] 53)).heap.size) := hd
              ⟨HS.after BQ, o6.kept BQ, (BQ.cell yl).trans y0, (BQ.cell yl).trans y1, Nat.lt_of_lt_of_le yl BQ.size⟩
            have x0 : (wr.alloc (.cells #[.int .i64 tp, .int .i64 tq] 53)).cell? ⟨wr.heap.size, 0, none⟩ = some (.int .i64 tp) := by rw [cell_of_row _ _ _ _ _ _ (heap_alloc_new wr _)]; rfl
            have x1 : (wr.alloc (.cells #[.int .i64 tp, .int .i64 tq] 53)).cell? ⟨wr.heap.size, 1, none⟩ = some (.int .i64 tq) := by rw [cell_of_row _ _ _ _ _ _ (heap_alloc_new wr _)]; rfl
            have xl : wr.heap.size < (wr.alloc (.cells #[.int .i64 tp, .int .i64 tq] 53)).heap.size := by simp
            have hgz : gu ≠ wr.heap.size := by have := HS.units.lt.2; omega
            have Z0 := hd z0
            have Z1 := hd z1
            have A1 := hd HA1
            have A2 := hd HA2
            clear C6 hc2 o6 y0 y1 yl HS HH BQ HA1 HA2 z0 z1
            go_upto_region 10 with fail
            obtain ⟨wA, hwA⟩ : ∃ wA, Hid (wr.alloc (.cells #[.int .i64 tp, .int .i64 tq] 53) = wA) := ⟨_, rfl⟩
            rw [hwA.out] at HA x0 x1 xl ⊢
            clear c0 c1
            by_cases hq0 : tq = 0
            · have dq : ((tq : Int) == 0) = true := by simp [hq0]
              go_wp2_with fail
              go_roundg (gk - 1)
              case measure => omega
              case rel => exact ⟨i + 1, z, rfl, rfl, by go_num, by omega, hd ⟨HA.out, Z0.out, Z1.out, fun j hj h2 => by
                by_cases ej : j = i
                · rw [ej, htq.out] at h2; exact absurd hq0 h2
                · exact A1.out j (by omega) h2, by
                rcases A2.out with h | ⟨j, hj, h2, h3⟩
                · exact .inl h
                · exact .inr ⟨j, by omega, h2, h3⟩⟩⟩
            · have dq : ((tq : Int) == 0) = false := by simp [hq0]
              have hIx := fun (W : World) => index_any tp tq W ht2 (by omega)
              have hnM : 256 * tp + tq < M := by have := HM.out; omega
              have hnu : Hid (256 * tp + tq ∈ nx l (256 * p + s)) := hd ((hnx.out _).mpr ⟨(tp, tq), htm.out, hq0, rfl⟩)
              unfold stV at hIx
              simp only at hIx
              obtain ⟨nt, hnt⟩ : ∃ nt, Hid (256 * tp + tq = nt) := ⟨_, rfl⟩
              rw [hnt.out] at hIx hnM hnu
              have hnM' : (nt : Int) < (M : Int) := by omega
              have hIA := hIx wA
              have hQ0 : Hid (tq ≠ 0) := hd hq0
              clear hq0
              by_cases hg : G nt = 0
              · go_upto_region 12 with (go_at_call 20; refine hIA.mono ?_; rintro e7 w7 ⟨rfl, b7⟩; have HS7 := hd (HA.out.1.after b7); have cs := HS7.out.units.cell nt hnM; unfold iF at cs; rw [hg] at cs)
                have y0 := (b7.cell xl).trans x0
                have y1 := (b7.cell xl).trans x1
                have yl := Nat.lt_of_lt_of_le xl b7.size
                have hI7 := hIx w7
                clear cs b7 x0 x1 xl hIA HA
                go_upto_region 13 with (go_at_call 20; refine hI7.mono ?_; rintro e8 w8 ⟨rfl, b8⟩; have HS8 := hd (HS7.out.after b8); have cs := HS8.out.units.cell nt hnM; unfold iF at cs; have fz := HS8.out.units.free nt)
                have HS9 : Hid (MS w (w8.setCell ⟨gu, nt, none⟩ (.int .i64 9223372036854775807)) w0.heap.size gu M (upd G nt INF) gt c (ts' ++ [(p, s)])) := hd (HS8.out.put nt INF)
                have x0 : (w8.setCell ⟨gu, nt, none⟩ (.int .i64 9223372036854775807)).cell? ⟨wr.heap.size, 0, none⟩ = some (.int .i64 tp) := (HS8.out.units.put nt (.int .i64 9223372036854775807)).2.cell ((b8.cell yl).trans y0) (by simp; omega)
                have x1 : (w8.setCell ⟨gu, nt, none⟩ (.int .i64 9223372036854775807)).cell? ⟨wr.heap.size, 1, none⟩ = some (.int .i64 tq) := (HS8.out.units.put nt (.int .i64 9223372036854775807)).2.cell ((b8.cell yl).trans y1) (by simp; omega)
                obtain ⟨w9, hw9⟩ : ∃ w9, Hid (w8.setCell ⟨gu, nt, none⟩ (.int .i64 9223372036854775807) = w9) := ⟨_, rfl⟩
                rw [hw9.out] at HS9 x0 x1 ⊢
                clear cs fz y0 y1 b8 HS8 HS7 hI7
                have HSA : Hid (MS w (w9.alloc (.cells #[.int .i64 tp, .int .i64 tq] 53)) w0.heap.size gu M (upd G nt INF) gt c (ts' ++ [(p, s)])) := hd (HS9.out.after ((Below.refl _ _).alloc (Nat.le_refl _) _))
                have oA := HSA.out.row
                unfold Sts at oA
                rw [List.length_append, List.length_singleton, hm.out] at oA
                have lA := HSA.out.grow.size
                have HL9 : Hid (left (nz (upd G nt INF)) M + 1 = left (nz G) M) := hd (nz_push INF_ne hg M hnM)
                have HMI9 : Hid (MInv l (upd G nt INF) (nt :: (256 * p + s) :: (ts'.map num).reverse)) := hd (HMI.out.push hnu.out hg)
                have HGb9 : Hid (∀ i, 0 ≤ upd G nt INF i ∧ upd G nt INF i ≤ INF) := hd (fun i => by
                  unfold upd
                  split
                  · exact ⟨by decide, Int.le_refl _⟩
                  · exact HGb.out i)
                have HGn9 : Hid (upd G nt INF n0 ≠ 0) := hd (by
                  by_cases e : n0 = nt
                  · rw [e, upd_self]; exact INF_ne
                  · rw [upd_ne _ _ e]; exact HGn.out)
                clear hg
                go_wp2_with (first
                  | (at_builtin; refine wpList_append_lies _ rfl _ _ 63 rfl w.heap.size 53 i1 (.agg #[.int .i64 0, .int .i64 0]) 2 16 Tryd.underlying63 hi1 hy0 hy1 hy2 rfl (by decide) (.slice (some ⟨gt, 0, none⟩) (m + 1) c) _ _ rfl oA ⟨_, 0, none⟩ 1 1 (stC (tp, tq)) rfl rfl (new_cells _ (stC (tp, tq)) _) (stC_one _) (by decide) (by unfold maxLen; omega) (by omega) lA _ rfl ?_
                     intro g4 c4 w4' o4 gr4 li4 lt4
                     have HSB := hd (HSA.out.push (by rw [List.length_append, List.length_singleton, hm.out]) o4 gr4)
                     clear o4 gr4 li4 lt4 oA))
                go_roundg (2 * left (nz (upd G nt INF)) M + (m + 1 + 1))
                case measure => have := HK.out; have := HL9.out; omega
                case rel =>
                  refine ⟨g4, c4, ts' ++ [(p, s)] ++ [(tp, tq)], upd G nt INF, by simp [hm.out], hd ⟨HSB.out, ?_, ?_, HGb9.out, HGn9.out, by simp [hm.out], by have := HK.out; have := HL9.out; omega⟩⟩
                  · simpa [num, hnt.out] using HMI9.out
                  · intro t ht
                    simp only [List.append_assoc, List.mem_append, List.mem_cons, List.not_mem_nil, or_false, List.cons_append, List.nil_append] at ht
                    rcases ht with ht | rfl | rfl
                    · exact HT.out t ht
                    · exact ⟨ps, pp⟩
                    · exact ⟨ht2, ht1⟩
              · have dg : (G nt == 0) = false := by simpa using hg
                have gb := HGb.out nt
                have hG0 : Hid (G nt ≠ 0) := hd hg
                clear hg
                obtain ⟨x, hx⟩ : ∃ x, Hid (G nt = x) := ⟨_, rfl⟩
                rw [hx.out] at dg gb hG0
                go_upto_region 14 with (go_at_call 20; refine hIA.mono ?_; rintro e7 w7 ⟨rfl, b7⟩; have HS7 := hd (HA.out.1.after b7); have cs := HS7.out.units.cell nt hnM; unfold iF at cs; rw [hx.out] at cs)
                have y0 := (b7.cell xl).trans x0
                have y1 := (b7.cell xl).trans x1
                have HA7 : Hid (MS w w7 w0.heap.size gu M G gt c (ts' ++ [(p, s)]) ∧ Sts w7 w5.heap.size (.slice (some ⟨gf, 0, none⟩) fs.length cf) fs ∧ w7.cell? ⟨hs, 0, none⟩ = some (.int .i64 p) ∧ w7.cell? ⟨hs, 1, none⟩ = some (.int .i64 s) ∧ hs < w7.heap.size) := hd
                  ⟨HS7.out, HA.out.2.1.kept b7, (b7.cell HA.out.2.2.2.2).trans HA.out.2.2.1, (b7.cell HA.out.2.2.2.2).trans HA.out.2.2.2.1, Nat.lt_of_lt_of_le HA.out.2.2.2.2 b7.size⟩
                have hI7 := hIx w7
                clear cs b7 x0 x1 xl hIA HA HS7
                by_cases hzx : z < x
                · have HI' : Hid (∀ j, j < i + 1 → (fs.getD j (0, 0)).2 ≠ 0 → G (num (fs.getD j (0, 0))) ≠ 0 ∧ G (num (fs.getD j (0, 0))) ≤ x) := hd (fun j hj h2 => by
                    by_cases ej : j = i
                    · rw [ej, htq.out]; unfold num; rw [hnt.out, hx.out]; exact ⟨hG0.out, Int.le_refl _⟩
                    · have := A1.out j (by omega) h2; exact ⟨this.1, by omega⟩)
                  have HJ' : Hid (x = 0 ∨ ∃ j, j < i + 1 ∧ (fs.getD j (0, 0)).2 ≠ 0 ∧ G (num (fs.getD j (0, 0))) = x) := hd (.inr ⟨i, by omega, by rw [htq.out]; exact hQ0.out, by rw [htq.out]; unfold num; rw [hnt.out, hx.out]⟩)
                  go_wp2_with (go_at_call 20; refine hI7.mono ?_; rintro e8 w8 ⟨rfl, b8⟩; have HS8 := hd (HA7.out.1.after b8); have cs := HS8.out.units.cell nt hnM; unfold iF at cs; rw [hx.out] at cs)
                  go_roundg (gk - 1)
                  case measure => omega
                  case rel => exact ⟨i + 1, x, rfl, rfl, by go_num, by omega, hd ⟨⟨HS8.out, HA7.out.2.1.kept b8, (b8.cell HA7.out.2.2.2.2).trans HA7.out.2.2.1, (b8.cell HA7.out.2.2.2.2).trans HA7.out.2.2.2.1, Nat.lt_of_lt_of_le HA7.out.2.2.2.2 b8.size⟩, gb.1, gb.2, HI'.out, HJ'.out⟩⟩
                · have hzx' : x ≤ z := by omega
                  have HI' : Hid (∀ j, j < i + 1 → (fs.getD j (0, 0)).2 ≠ 0 → G (num (fs.getD j (0, 0))) ≠ 0 ∧ G (num (fs.getD j (0, 0))) ≤ z) := hd (fun j hj h2 => by
                    by_cases ej : j = i
                    · rw [ej, htq.out]; unfold num; rw [hnt.out, hx.out]; exact ⟨hG0.out, hzx'⟩
                    · exact A1.out j (by omega) h2)
                  have HJ' : Hid (z = 0 ∨ ∃ j, j < i + 1 ∧ (fs.getD j (0, 0)).2 ≠ 0 ∧ G (num (fs.getD j (0, 0))) = z) := hd (by
                    rcases A2.out with h | ⟨j, hj, h2, h3⟩
                    · exact .inl h
                    · exact .inr ⟨j, by omega, h2, h3⟩)
                  go_wp2_with (go_at_call 20; refine hI7.mono ?_; rintro e8 w8 ⟨rfl, b8⟩; have HS8 := hd (HA7.out.1.after b8); have cs := HS8.out.units.cell nt hnM; unfold iF at cs; rw [hx.out] at cs)
                  go_roundg (gk - 1)
                  case measure => omega
                  case rel => exact ⟨i + 1, z, rfl, rfl, by go_num, by omega, hd ⟨⟨HS8.out, HA7.out.2.1.kept b8, (b8.cell HA7.out.2.2.2.2).trans HA7.out.2.2.1, (b8.cell HA7.out.2.2.2.2).trans HA7.out.2.2.2.1, Nat.lt_of_lt_of_le HA7.out.2.2.2.2 b8.size⟩, Z0.out, Z1.out, HI'.out, HJ'.out⟩⟩
          · have hltd : decide ((i : Int) < (fs.length : Int)) = false := by simp; omega
            obtain ⟨⟨HS, _, y0, y1, yl⟩, z0, z1, HA1, HA2⟩ := HH.out
            have key : ∀ t ∈ nx l (256 * p + s), G t ≠ 0 ∧ G t ≤ z := fun n hn => by
              obtain ⟨t, ht, h2, rfl⟩ := (hnx.out n).mp hn
              obtain ⟨j, hj, rfl⟩ := List.getElem_of_mem ht
              have := HA1 j (by omega)
              rw [List.getD_eq_getElem?_getD, List.getElem?_eq_getElem hj] at this
              exact this h2
            have key2 : z = 0 ∨ ∃ t ∈ nx l (256 * p + s), G t = z := by
              rcases HA2 with h | ⟨j, hj, h2, h3⟩
              · exact .inl h
              · refine .inr ⟨_, (hnx.out _).mpr ⟨fs.getD j (0, 0), ?_, h2, rfl⟩, h3⟩
                rw [List.getD_eq_getElem?_getD, List.getElem?_eq_getElem (by omega)]
                exact List.getElem_mem _
            have HS' := hd HS
            have K1 := hd key
            have K2 := hd key2
            have Z0 := hd z0
            have Z1 := hd z1
            clear key key2 HS HA1 HA2 HH z0 z1
            by_cases hz : z = 9223372036854775807
            · have dz : (z != 9223372036854775807) = false := by simp [hz]
              have HU1 : Hid (un l (256 * p + s) = INF) := hd (HMI.out.endless HO.out (by
                rcases K2.out with h | h
                · omega
                · rw [hz] at h; exact h))
              clear hz
              go_wp2_with fail
              go_roundg (2 * left (nz G) M + ts'.length)
              case measure => have := HK.out; have := hm.out; omega
              case rel => exact ⟨gt, c, ts', G, by rw [hm.out], hd ⟨HS'.out.pop, HMI.out.popE HU1.out, HT.out, HGb.out, HGn.out, rfl, by have := HK.out; have := hm.out; omega⟩⟩
            · have dz : (z != 9223372036854775807) = true := by simpa using hz
              have zb : z + 1 ≤ 9223372036854775807 := by have := Z1.out; unfold INF at this; omega
              have zb0 : 0 ≤ z := Z0.out
              have HU1 : Hid (un l (256 * p + s) = z + 1) := hd (HMI.out.ended zb0 (by unfold INF; omega) K1.out K2.out)
              clear hz
              have hIx := fun (W : World) => index_any p s W ps (by omega)
              have hcM : 256 * p + s < M := by have := HM.out; omega
              unfold stV at hIx
              simp only at hIx
              obtain ⟨cu, hcu⟩ : ∃ cu, Hid (256 * p + s = cu) := ⟨_, rfl⟩
              rw [hcu.out] at hIx hcM HU1
              have hcM' : (cu : Int) < (M : Int) := by omega
              have hI6 := hIx wr
              go_upto_region 18 with (go_at_call 20; refine hI6.mono ?_; rintro e8 w8 ⟨rfl, b8⟩; have HS8 := hd (HS'.out.after b8); have cs := HS8.out.units.cell cu hcM; unfold iF at cs; have fz := HS8.out.units.free cu)
              have HS9 : Hid (MS w (w8.setCell ⟨gu, cu, none⟩ (.int .i64 (z + 1))) w0.heap.size gu M (upd G cu (z + 1)) gt c (ts' ++ [(p, s)])) := hd (HS8.out.put cu (z + 1))
              obtain ⟨w9, hw9⟩ : ∃ w9, Hid (w8.setCell ⟨gu, cu, none⟩ (.int .i64 (z + 1)) = w9) := ⟨_, rfl⟩
              rw [hw9.out] at HS9 ⊢
              have HMI9 : Hid (MInv l (upd G cu (z + 1)) (ts'.map num).reverse) := hd (by
                have := HMI.out
                rw [hcu.out] at this
                exact this.popF HU1.out)
              have hcn : G cu ≠ 0 := by
                have := HMI.out.inf (256 * p + s) (by simp)
                rw [hcu.out] at this
                rw [this]
                exact INF_ne
              have HL9 : Hid (left (nz (upd G cu (z + 1))) M = left (nz G) M) := hd (nz_keep (by omega) hcn M)
              have HGb9 : Hid (∀ i, 0 ≤ upd G cu (z + 1) i ∧ upd G cu (z + 1) i ≤ INF) := hd (fun i => by
                unfold upd
                split
                · exact ⟨by omega, by unfold INF; omega⟩
                · exact HGb.out i)
              have HGn9 : Hid (upd G cu (z + 1) n0 ≠ 0) := hd (by
                by_cases e : n0 = cu
                · rw [e, upd_self]; omega
                · rw [upd_ne _ _ e]; exact HGn.out)
              clear cs fz b8 hcn hI6 y0 y1 yl
              go_wp2_with fail
              go_roundg (2 * left (nz (upd G cu (z + 1))) M + ts'.length)
              case measure => have := HK.out; have := hm.out; have := HL9.out; omega
              case rel => exact ⟨gt, c, ts', upd G cu (z + 1), by rw [hm.out], hd ⟨HS9.out.pop, HMI9.out, HT.out, HGb9.out, HGn9.out, rfl, by have := HK.out; have := hm.out; have := HL9.out; omega⟩⟩
  · have dg : (G0 n0 != 0) = true := by simpa using hg0
    obtain ⟨x, hx⟩ : ∃ x, Hid (G0 n0 = x) := ⟨_, rfl⟩
    rw [hx.out] at dg
    go_wp2_with (go_at_call 20; refine hIA.mono ?_; rintro e2 w2 ⟨rfl, b2⟩; have HA2 := hd (hAw.out.kept b2); have cs := HA2.out.cell n0 hnM; unfold iF at cs; rw [hx.out] at cs)
    have BW2 := BA.trans (b2.mono BA.size)
    rw [Exit.noGoto_ret]
    refine bodyPost_ret (results_none rfl _ _ _) rfl ⟨rfl, ?_⟩
    rw [← hQ.out]
    exact ⟨G0, HA2.out, HU.out, hg0, HG.out, grown_below BW2⟩
end Go.Proofs.YtehapcoppghppaaDoor
