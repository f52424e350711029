/- reach: the stands that the program goes through. -/
import Derived.Test.YtehapcoppghppaaDoorVW2
import Derived.Deep.LoopGhost
import Derived.Deep.CutRange
namespace Go.Proofs.YtehapcoppghppaaDoor
open Go.RowKit

theorem infoB : (Tryd.prog.info? 4).map (fun i => (i.zero, i.size, i.bytes)) = some (some (.bool false), 1, 1) := by kernel_rfl
theorem infoI : (Tryd.prog.info? 3).map (fun i => (i.zero, i.size, i.bytes)) = some (some (.int .i64 0), 1, 8) := by kernel_rfl
theorem infoS : (Tryd.prog.info? 53).map (fun i => (i.zero, i.size, i.bytes)) = some (some (.agg #[.int .i64 0, .int .i64 0]), 2, 16) := by kernel_rfl

/-- What reach has in hand: whom it met, and those to look at. -/
structure RS (W wr : World) (g M : Nat) (f : Nat → Bool) (gt cap : Nat) (ts : List (Nat × Nat)) : Prop where
  seen : Arr wr W.heap.size g 4 M (fun j => .bool (f j))
  todo : Sts wr W.heap.size (.slice (some ⟨gt, 0, none⟩) ts.length cap) ts
  ne : gt ≠ g
  bel : Below W.heap.size W wr

theorem RS.after {W wr w' : World} {g M gt cap : Nat} {f : Nat → Bool} {ts : List (Nat × Nat)} (h : RS W wr g M f gt cap ts) (hb : Below wr.heap.size wr w') : RS W w' g M f gt cap ts :=
  ⟨h.seen.kept hb, h.todo.kept hb, h.ne, h.bel.trans (hb.mono h.bel.size)⟩
theorem RS.mark {W wr : World} {g M gt cap : Nat} {f : Nat → Bool} {ts : List (Nat × Nat)} (h : RS W wr g M f gt cap ts) (t : Nat) : RS W (wr.setCell ⟨g, t, none⟩ (.bool true)) g M (mark f t) gt cap ts := by
  obtain ⟨h1, h2⟩ := h.seen.put t (.bool true)
  refine ⟨h1.ext fun i _ => ?_, h.todo.grown h2 (.inr ?_), h.ne, h.bel.setCell h.seen.lt.1 _⟩
  · unfold Go.Proofs.YtehapcoppghppaaDoor.mark
    split <;> rfl
  · simp only [Value.ownBlock]
    intro e
    exact h.ne (Option.some.inj e).symm
theorem RS.pop {W wr : World} {g M gt cap : Nat} {f : Nat → Bool} {ts : List (Nat × Nat)} {t : Nat × Nat} (h : RS W wr g M f gt cap (ts ++ [t])) : RS W wr g M f gt cap ts :=
  ⟨h.seen, sts_pop (t := t) (by have := h.todo; rwa [List.length_append, List.length_singleton] at this), h.ne, h.bel⟩
theorem RS.push {W wa w' : World} {g M gt cap n g4 c4 : Nat} {f : Nat → Bool} {ts : List (Nat × Nat)} {t : Nat × Nat} (h : RS W wa g M f gt cap ts) (hn : n = ts.length)
    (o : w'.ownsRow W.heap.size 53 2 (.slice (some ⟨g4, 0, none⟩) (n + 1) c4) (n + 1) (sCells ts ++ stC t)) (gr : wa.grownBy w' (some gt)) (li : some gt = some g4 ∨ g4 = wa.heap.size) : RS W w' g M f g4 c4 (ts ++ [t]) := by
  refine ⟨h.seen.grown gr (fun e => h.ne (Option.some.inj e)), by have := sts_push o hn; rwa [← List.length_singleton (a := t), ← List.length_append] at this, ?_, ?_⟩
  · rcases li with li | li
    · rw [← Option.some.inj li]; exact h.ne
    · have := h.seen.lt.2
      omega
  · exact h.bel.grown gr h.bel.size (fun k hk => by cases hk; exact (World.ownsRow.lt h.todo _ rfl).1)
theorem RS.top {W wr : World} {g M gt cap : Nat} {f : Nat → Bool} {ts : List (Nat × Nat)} {p s : Nat} (h : RS W wr g M f gt cap (ts ++ [(p, s)])) :
    wr.cell? ⟨gt, ts.length * 2, none⟩ = some (.int .i64 p) ∧ wr.cell? ⟨gt, ts.length * 2 + 1, none⟩ = some (.int .i64 s) ∧ ts.length + 1 ≤ cap := by
  obtain ⟨a, c, h1, h2, h3⟩ := h.todo.form
  simp only [Value.slice.injEq] at h1
  obtain ⟨rfl, _, rfl⟩ := h1
  obtain ⟨g', e, _, h4, h5⟩ := h3 ts.length (by simp)
  cases e
  simp only [List.length_append, List.length_singleton] at h2
  have e : (ts ++ [(p, s)]).getD ts.length (0, 0) = (p, s) := by simp [List.getD_eq_getElem?_getD]
  rw [e] at h4 h5
  exact ⟨h4, h5, h2⟩

/-- Besides: the stands that follow the one at hand. -/
structure RI (W wi : World) (g M : Nat) (f : Nat → Bool) (gt cap : Nat) (ts : List (Nat × Nat)) (B : Nat) (v : Value) (fs : List (Nat × Nat)) : Prop where
  rs : RS W wi g M f gt cap ts
  fo : Sts wi B v fs
  ne : ∀ b, v.ownBlock = some b → b ≠ g ∧ b ≠ gt

section
variable {W wi : World} {g M gt cap B : Nat} {f : Nat → Bool} {ts fs : List (Nat × Nat)} {v : Value}
theorem RI.after {w' : World} (h : RI W wi g M f gt cap ts B v fs) (hb : Below wi.heap.size wi w') : RI W w' g M f gt cap ts B v fs := ⟨h.rs.after hb, h.fo.kept hb, h.ne⟩
theorem RI.mark (h : RI W wi g M f gt cap ts B v fs) (t : Nat) : RI W (wi.setCell ⟨g, t, none⟩ (.bool true)) g M (mark f t) gt cap ts B v fs :=
  ⟨h.rs.mark t, h.fo.grown (h.rs.seen.put t (.bool true)).2 (.inr fun e => (h.ne g e.symm).1 rfl), h.ne⟩
theorem RI.push {w' : World} {n g4 c4 : Nat} {t : Nat × Nat} (h : RI W wi g M f gt cap ts B v fs) (hn : n = ts.length)
    (o : w'.ownsRow W.heap.size 53 2 (.slice (some ⟨g4, 0, none⟩) (n + 1) c4) (n + 1) (sCells ts ++ stC t)) (gr : wi.grownBy w' (some gt)) (li : some gt = some g4 ∨ g4 = wi.heap.size) : RI W w' g M f g4 c4 (ts ++ [t]) B v fs :=
  ⟨h.rs.push hn o gr li, h.fo.grown gr (.inr fun e => (h.ne gt e.symm).2 rfl), fun b hb => ⟨(h.ne b hb).1, by
    rcases li with li | li
    · rw [← Option.some.inj li]; exact (h.ne b hb).2
    · have := (World.ownsRow.lt h.fo b hb).2
      omega⟩⟩
end

theorem folP_len (l : List Ins) (p s : Nat) : (folP l p s).length ≤ 2 := by
  unfold folP folX
  repeat' split
  all_goals simp

/-- What reach tells. -/
def RPost (w : World) (l : List Ins) (e : Ending) (w' : World) : Prop :=
  (∃ er p, IsW l er p ∧ e = .returned (.tuple #[.slice none 0 0, .int .i64 er, .int .i64 (p : Int)]) ∧ Below w.heap.size w w') ∨
  ((∀ n, Rch l n → wrE l n = 0) ∧ ∃ (g : Nat) (f : Nat → Bool), (∀ n, f n = true ↔ Rch l n) ∧ e = .returned (.tuple #[.slice (some ⟨g, 0, none⟩) (256 * (l.length + 1)) (256 * (l.length + 1)), .int .i64 0, .int .i64 0]) ∧ Arr w' w.heap.size g 4 (256 * (l.length + 1)) (fun j => .bool (f j)) ∧ Below w.heap.size w w')

set_option maxRecDepth 100000 in
set_option maxHeartbeats 4000000 in
theorem reach_any (a : Option Addr) (cap : Nat) (l : List Ins) (w : World) (hP : Prg w a l) (ok : Ok l) :
    Calls Tryd.prog 19 #[.slice a l.length cap] w (RPost w l) := by
  obtain ⟨i0, hi0, hz0, hz1, hz2⟩ := info_parts infoB
  obtain ⟨i1, hi1, hy0, hy1, hy2⟩ := info_parts infoS
  have HP : Hid (Prg w a l) := hP
  have HO : Hid (Ok l) := ok
  have HL : Hid (l.length ≤ 256) := ok.len
  have hWr := fun (W : World) (h : Below w.heap.size w W) (p s : Nat) (hs : s < 256) (hp : p ≤ l.length) => wrong_any a cap l p s W (HP.out.kept h) HO.out hs hp
  have hFo := fun (W : World) (h : Below w.heap.size w W) (p s : Nat) (hs : s < 256) (hp : p ≤ l.length) => follow_any a cap l p s W (HP.out.kept h) HO.out hs hp
  have hI0 := fun (W : World) => index_any 0 0 W (by omega) (by omega)
  have hIM := fun (W : World) => index_any (l.length + 1) 0 W (by omega) (by have := HL.out; omega)
  obtain ⟨Q, hQ⟩ : ∃ Q, Hid (RPost w l = Q) := ⟨_, rfl⟩
  rw [hQ.out]
  obtain ⟨N, hN⟩ : ∃ N, Hid (l.length = N) := ⟨_, rfl⟩
  rw [hN.out] at hWr hFo hIM HL ⊢
  have hN256 := HL.out
  have B1 : ∀ ob, Below w.heap.size w (w.alloc ob) := fun ob => (Below.refl w.heap.size w).alloc (Nat.le_refl _) ob
  obtain ⟨M, hM⟩ : ∃ M, Hid (256 * (N + 1) = M) := ⟨_, rfl⟩
  have hM1 : M ≤ 70000 := by have := hM.out; omega
  have hM0 : 0 < M := by have := hM.out; omega
  have hIM' : ∀ W, Calls Tryd.prog 20 #[.agg #[.int .i64 ((N : Int) + 1), .int .i64 0]] W fun e w' => e = .returned (.int .i64 (M : Int)) ∧ Below W.heap.size W w' := fun W => by
    have := hIM W
    rw [Nat.add_zero, hM.out] at this
    exact this
  clear hP ok hIM
  go_enter Tryd.func19, Tryd.ntmps19
  go_wp2_with fail
  go_step3
  go_upto_region 3 with (first
    | (go_at_call 20; refine (hIM' _).mono ?_; rintro e w1 ⟨rfl, b1⟩)
    | (refine wpList_make_full _ rfl _ _ 34 rfl w.heap.size 4 i0 (.bool false) 1 Tryd.underlying34 hi0 hz0 hz1 .i64 .i64 _ _ M rfl rfl rfl rfl (by rw [hz2]; omega) (by unfold maxLen; omega) ?_ ?_
       case refine_1 => exact ((B1 _).trans (b1.mono (B1 _).size)).size
       intro w2 ho2 hg2))
  have hb1 := (B1 (.cells #[.int .i64 0, .int .i64 0] 53)).trans (b1.mono (B1 _).size)
  have hb2 : Below w.heap.size w w2 := hb1.grown hg2 hb1.size (fun k hk => by cases hk)
  rw [made_arr (.bool false) rfl M] at ho2
  have hA2 : Arr w2 w.heap.size w1.heap.size 4 M (fun _ => .bool false) := ho2
  have hI0' : Calls Tryd.prog 20 #[.agg #[.int .i64 0, .int .i64 0]] w2 fun e w' => e = .returned (.int .i64 0) ∧ Below w2.heap.size w2 w' := hI0 w2
  have hs1 : w.heap.size < w1.heap.size := by have := b1.size; simp at this; omega
  have f0 : ∀ j, j < 2 → w2.cell? ⟨w.heap.size, j, none⟩ = some (.int .i64 0) := fun j hj => by
    have h1 : (w.alloc (.cells #[.int .i64 0, .int .i64 0] 53)).cell? ⟨w.heap.size, j, none⟩ = some (.int .i64 0) := by
      rw [cell_of_row _ _ _ _ _ _ (heap_alloc_new w _)]
      match j, hj with
      | 0, _ => rfl
      | 1, _ => rfl
    have h2 : w1.cell? ⟨w.heap.size, j, none⟩ = some (.int .i64 0) := (b1.cell (by simp)).trans h1
    exact hg2.cell h2 (by simp)
  have f00 := f0 0 (by decide)
  have f01 := f0 1 (by decide)
  obtain ⟨g, hg⟩ : ∃ g, w1.heap.size = g := ⟨_, rfl⟩
  rw [hg] at hA2 hs1 ⊢
  clear hI0 hIM' hg2 ho2 b1 hb1 f0 hi0 hz0 hz1 hz2 hg
  go_upto_region 4 with (go_at_call 20; refine hI0'.mono ?_; rintro e w3 ⟨rfl, b3⟩; have hA3 := hA2.kept b3; have c3 := hA3.cell 0 hM0; have r3 := hA3.free 0)
  obtain ⟨w4, hw4⟩ : ∃ w4, Hid (w3.setCell ⟨g, 0, none⟩ (.bool true) = w4) := ⟨_, rfl⟩
  have hb3 : Below w.heap.size w w3 := hb2.trans (b3.mono hb2.size)
  have hb4 : Below w.heap.size w w4 := by rw [← hw4.out]; exact hb3.setCell hA3.lt.1 _
  have hA4 : Arr w4 w.heap.size g 4 M (fun j => .bool (mark (fun _ => false) 0 j)) := by
    rw [← hw4.out]
    exact (hA3.put 0 (.bool true)).1.ext fun i _ => by unfold mark; split <;> rfl
  have k00 : w4.cell? ⟨w.heap.size, 0, none⟩ = some (.int .i64 0) := by
    rw [← hw4.out]
    exact (hA3.put 0 (.bool true)).2.cell ((b3.cell (by have := World.block_lt_of_cell? w2 _ f00; exact this)).trans f00) (by simp; omega)
  have k01 : w4.cell? ⟨w.heap.size, 1, none⟩ = some (.int .i64 0) := by
    rw [← hw4.out]
    exact (hA3.put 0 (.bool true)).2.cell ((b3.cell (by have := World.block_lt_of_cell? w2 _ f01; exact this)).trans f01) (by simp; omega)
  rw [hw4.out]
  have hRS : Hid (RS w (w4.alloc (.cells #[.int .i64 0, .int .i64 0] 53)) g M (mark (fun _ => false) 0) w4.heap.size 1 [(0, 0)]) := hd
    ⟨hA4.kept ((Below.refl _ _).alloc (Nat.le_refl _) _), sts_one hb4.size rfl rfl rfl, by have := hA4.lt.2; omega, hb4.alloc hb4.size _⟩
  clear hA2 hA3 c3 r3 hb2 hb3 hI0' f00 f01 hs1 hw4 b3
  go_wp2_with fail
  go_step3
  go_wp2_with fail
  go_loopg [7, 8, 9] (2 * left (mark (fun _ => false) 0) M + 1) (fun k v7 v8 v9 wr => ∃ (e : Int) (q gt cap : Nat) (ts : List (Nat × Nat)) (f : Nat → Bool), v7 = .int .i64 e ∧ v8 = .int .i64 (q : Int) ∧ v9 = .slice (some ⟨gt, 0, none⟩) ts.length cap ∧ Hid (RS w wr g M f gt cap ts ∧ Met l f (ts.map num) e q ∧ (∀ t ∈ ts, t.2 < 256 ∧ t.1 ≤ N) ∧ 2 * left f M + ts.length = k ∧ k ≤ 2 * M))
  case atStart => exact ⟨0, N, _, 1, [(0, 0)], _, rfl, rfl, rfl, hd ⟨hRS.out, by have := met_start l; rw [hN.out] at this; exact this, by simp, rfl, by have := left_mark (f := fun _ => false) (t := 0) rfl M hM0; have := left_le (fun _ => false) M; omega⟩⟩
  case round =>
    obtain ⟨e, q, gt, c, ts, f, rfl, rfl, rfl, HR⟩ := hrel
    clear hRS hA4 k00 k01 hb4
    rcases List.eq_nil_or_concat ts with rfl | ⟨ts', ⟨p, s⟩, rfl⟩
    · simp only [List.length_nil]
      by_cases he : e = 0
      · have d0 : (e != 0) = false := by simp [he]
        have HF : Hid (Q (.returned (.tuple #[.slice (some ⟨g, 0, none⟩) M M, .int .i64 0, .int .i64 0])) wr) := hd (by
          obtain ⟨r1, r2, _⟩ := HR.out
          rw [← hQ.out]
          refine .inr ⟨Met.none r2 he, g, f, Met.all r2, ?_, ?_, r1.bel⟩
          · rw [hN.out, hM.out]
          · rw [hN.out, hM.out]
            exact r1.seen)
        clear he
        go_wp2_with fail
        try rw [Exit.noGoto_ret]
        go_ret3
        exact HF.out
      · have d0 : (e != 0) = true := by simp [he]
        have HF : Hid (Q (.returned (.tuple #[.slice none 0 0, .int .i64 e, .int .i64 (q : Int)])) wr) := hd (by
          obtain ⟨r1, r2, _⟩ := HR.out
          rw [← hQ.out]
          exact .inl ⟨e, q, Met.some r2 he, rfl, r1.bel⟩)
        clear he
        go_wp2_with fail
        try rw [Exit.noGoto_ret]
        go_ret3
        exact HF.out
    · rw [List.concat_eq_append] at *
      simp only [List.length_append, List.length_singleton]
      obtain ⟨m, hm⟩ : ∃ m, Hid (ts'.length = m) := ⟨_, rfl⟩
      obtain ⟨t0, t1, tc⟩ := HR.out.1.top
      obtain ⟨ps, pp⟩ := HR.out.2.2.1 (p, s) (by simp)
      simp only at ps pp
      rw [hm.out] at t0 t1 tc ⊢
      have hmb : m ≤ 200000 := by
        have h1 := HR.out.2.2.2.1
        have h2 := HR.out.2.2.2.2
        rw [List.length_append, List.length_singleton, hm.out] at h1
        omega
      have BR : Hid (Below w.heap.size w wr) := hd HR.out.1.bel
      have hw := hWr (wr.alloc (.cells #[.int .i64 p, .int .i64 s] 53)) (BR.out.alloc BR.out.size _) p s ps pp
      have hp0 : (0 : Int) < (m : Int) + 1 := by omega
      have hmc : (m : Int) ≤ (c : Int) := by omega
      have hm1 : m < m + 1 := by omega
      unfold stV at hw
      go_upto_region 10 with (go_at_call 28; refine hw.mono ?_; rintro e5 w5 ⟨rfl, b5⟩)
      have HR5 : Hid (RS w w5 g M f gt c ts') := hd (HR.out.1.pop.after (((Below.refl _ wr).alloc (Nat.le_refl _) _).trans (b5.mono (by simp))))
      have s0 : w5.cell? ⟨wr.heap.size, 0, none⟩ = some (.int .i64 p) := (b5.cell (by simp)).trans (by rw [cell_of_row _ _ _ _ _ _ (heap_alloc_new wr _)]; rfl)
      have s1 : w5.cell? ⟨wr.heap.size, 1, none⟩ = some (.int .i64 s) := (b5.cell (by simp)).trans (by rw [cell_of_row _ _ _ _ _ _ (heap_alloc_new wr _)]; rfl)
      have HB5 : Hid (Below w.heap.size w w5) := hd HR5.out.bel
      have HM : Hid (Met l f ((256 * p + s) :: ts'.map num) e q) := hd (HR.out.2.1.mem (fun t => by simp [num, or_comm]))
      have HT : Hid (∀ t ∈ ts', t.2 < 256 ∧ t.1 ≤ N) := hd (fun t ht => HR.out.2.2.1 t (by simp [ht]))
      have HK : Hid (2 * left f M + ts'.length + 1 = gk ∧ gk ≤ 2 * M) := hd (by
        have h1 := HR.out.2.2.2.1
        rw [List.length_append, List.length_singleton] at h1
        exact ⟨by omega, HR.out.2.2.2.2⟩)
      have hwe : Hid (wrE l (256 * p + s) = wrP l p s) := hd (wrE_num l ps)
      have hnx : Hid (wrP l p s = 0 → nxt l (256 * p + s) = (folP l p s).map num) := hd (nxt_num l ps)
      have hF := hFo w5 HB5.out p s ps pp
      clear hw t0 t1 tc HR b5 BR hWr hFo
      obtain ⟨E, hE⟩ : ∃ E, wrP l p s = E := ⟨_, rfl⟩
      rw [hE] at hwe hnx ⊢
      clear hE
      by_cases he : E = 0
      · have d0 : (E != 0) = false := by simp [he]
        unfold stV at hF
        have hwe0 : Hid (wrE l (256 * p + s) = 0) := hd (by rw [hwe.out]; exact he)
        have hnx0 : Hid (nxt l (256 * p + s) = (folP l p s).map num) := hd (hnx.out he)
        have hfl : Hid (∀ t ∈ folP l p s, t.1 ≤ N ∧ t.2 < 256) := hd (fun t ht => by have := folP_lt HO.out ps ht; rwa [hN.out] at this)
        clear he hwe hnx
        have HLf : Hid ((folP l p s).length ≤ 2) := hd (folP_len l p s)
        obtain ⟨fs, hfs⟩ : ∃ fs, folP l p s = fs := ⟨_, rfl⟩
        rw [hfs] at hF hnx0 hfl HLf
        clear hfs
        go_wp2_with (first | (go_at_call 29; refine hF.mono ?_; rintro e6 w6 ⟨v, rfl, o6, b6⟩; obtain ⟨af, cf, rfl, hcf, C6⟩ := o6.form))
        have HI6 : Hid (RI w w6 g M f gt c ts' w5.heap.size (.slice af fs.length cf) fs) := hd ⟨HR5.out.after b6, o6, fun b hb => by
          have h1 := (World.ownsRow.lt o6 b hb).1
          have h2 := HR5.out.seen.lt.2
          have h3 := (World.ownsRow.lt HR5.out.todo gt rfl).2
          omega⟩
        have hfn : fs.length ≤ cf := hcf
        have hfl2 : fs.length ≤ 2 := HLf.out
        clear C6 o6 b6 hF HB5 s0 s1 d0 HR5
        go_loopg [9, 59] (fs.length) (fun k v9 v59 wi => ∃ (i gt c : Nat) (ts : List (Nat × Nat)) (f' : Nat → Bool), v9 = .slice (some ⟨gt, 0, none⟩) ts.length c ∧ v59 = .int .i64 (i : Int) ∧ i + k = fs.length ∧
          Hid (RI w wi g M f' gt c ts w5.heap.size (.slice af fs.length cf) fs ∧ Met l f' ((256 * p + s) :: ts.map num) e q ∧ (∀ t ∈ ts, t.2 < 256 ∧ t.1 ≤ N) ∧ 2 * left f' M + ts.length ≤ 2 * left f M + ts'.length ∧ ∀ j, j < i → f' (num (fs.getD j (0, 0))) = true))
        case atStart => exact ⟨0, gt, c, ts', f, by rw [hm.out], rfl, by omega, hd ⟨HI6.out, HM.out, HT.out, Nat.le_refl _, fun j hj => absurd hj (Nat.not_lt_zero j)⟩⟩
        case round =>
          obtain ⟨i, gt', c', ts, f', rfl, rfl, hik, HH⟩ := hrel
          clear HI6
          by_cases hlt : i < fs.length
          · have hlt' : (i : Int) < (fs.length : Int) := by omega
            obtain ⟨a', c2, e', hc2, C6⟩ := HH.out.1.fo.form
            obtain ⟨gf, ea, hgf, c0, c1⟩ := C6 i hlt
            simp only [Value.slice.injEq] at e'
            obtain ⟨rfl, -, rfl⟩ := e'
            subst ea
            have ht := hfl.out (fs.getD i (0, 0)) (by rw [List.getD_eq_getElem?_getD, List.getElem?_eq_getElem hlt]; exact List.getElem_mem hlt)
            obtain ⟨⟨tp, tq⟩, htq⟩ : ∃ t, Hid (fs.getD i (0, 0) = t) := ⟨_, rfl⟩
            rw [htq.out] at c0 c1 ht
            obtain ⟨ht1, ht2⟩ := ht
            simp only at c0 c1 ht1 ht2
            clear C6 hc2
            have hIx := fun (W : World) => index_any tp tq W ht2 (by omega)
            have hnM : 256 * tp + tq < M := by have := hM.out; omega
            unfold stV at hIx
            simp only at hIx
            obtain ⟨nt, hnt⟩ : ∃ nt, Hid (256 * tp + tq = nt) := ⟨_, rfl⟩
            rw [hnt.out] at hIx hnM
            have hnM' : (nt : Int) < (M : Int) := by omega
            have HA : Hid (RI w (wr.alloc (.cells #[.int .i64 tp, .int .i64 tq] 53)) g M f' gt' c' ts w5.heap.size (.slice (some ⟨gf, 0, none⟩) fs.length cf) fs) := hd (HH.out.1.after ((Below.refl _ _).alloc (Nat.le_refl _) _))
            have z0 : (wr.alloc (.cells #[.int .i64 tp, .int .i64 tq] 53)).cell? ⟨wr.heap.size, 0, none⟩ = some (.int .i64 tp) := by rw [cell_of_row _ _ _ _ _ _ (heap_alloc_new wr _)]; rfl
            have z1 : (wr.alloc (.cells #[.int .i64 tp, .int .i64 tq] 53)).cell? ⟨wr.heap.size, 1, none⟩ = some (.int .i64 tq) := by rw [cell_of_row _ _ _ _ _ _ (heap_alloc_new wr _)]; rfl
            have zl : wr.heap.size < (wr.alloc (.cells #[.int .i64 tp, .int .i64 tq] 53)).heap.size := by simp
            go_upto_region 16 with fail
            obtain ⟨wA, hwA⟩ : ∃ wA, Hid (wr.alloc (.cells #[.int .i64 tp, .int .i64 tq] 53) = wA) := ⟨_, rfl⟩
            rw [hwA.out] at HA z0 z1 zl ⊢
            have hgz : g ≠ wr.heap.size := by have := HH.out.1.rs.seen.lt.2; omega
            have hIA := hIx wA
            by_cases hs : f' nt = true
            · go_upto_region 19 with (go_at_call 20; refine hIA.mono ?_; rintro e7 w7 ⟨rfl, b7⟩; have HI7 := hd (HA.out.after b7); have cs := HI7.out.rs.seen.cell nt hnM; rw [hs] at cs)
              go_wp2_with fail
              go_roundg (gk - 1)
              case measure => omega
              case rel => exact ⟨i + 1, gt', c', ts, f', rfl, by go_num, by omega, hd ⟨HI7.out, HH.out.2.1, HH.out.2.2.1, HH.out.2.2.2.1, fun j hj => by
                by_cases ej : j = i
                · rw [ej, htq.out]; unfold num; rw [hnt.out]; exact hs
                · exact HH.out.2.2.2.2 j (by omega)⟩⟩
            · have hsf : f' nt = false := by simpa using hs
              go_upto_region 17 with (go_at_call 20; refine hIA.mono ?_; rintro e7 w7 ⟨rfl, b7⟩; have HI7 := hd (HA.out.after b7); have cs := HI7.out.rs.seen.cell nt hnM; rw [hsf] at cs)
              have y0 := (b7.cell zl).trans z0
              have y1 := (b7.cell zl).trans z1
              have yl := Nat.lt_of_lt_of_le zl b7.size
              have hI7 := hIx w7
              clear cs b7 z0 z1 zl hIA HA
              go_upto_region 18 with (go_at_call 20; refine hI7.mono ?_; rintro e8 w8 ⟨rfl, b8⟩; have HI8 := hd (HI7.out.after b8); have cs := HI8.out.rs.seen.cell nt hnM; have fz := HI8.out.rs.seen.free nt)
              have HI9 : Hid (RI w (w8.setCell ⟨g, nt, none⟩ (.bool true)) g M (mark f' nt) gt' c' ts w5.heap.size (.slice (some ⟨gf, 0, none⟩) fs.length cf) fs) := hd (HI8.out.mark nt)
              have x0 : (w8.setCell ⟨g, nt, none⟩ (.bool true)).cell? ⟨wr.heap.size, 0, none⟩ = some (.int .i64 tp) := (HI8.out.rs.seen.put nt (.bool true)).2.cell ((b8.cell yl).trans y0) (by simp; omega)
              have x1 : (w8.setCell ⟨g, nt, none⟩ (.bool true)).cell? ⟨wr.heap.size, 1, none⟩ = some (.int .i64 tq) := (HI8.out.rs.seen.put nt (.bool true)).2.cell ((b8.cell yl).trans y1) (by simp; omega)
              obtain ⟨w9, hw9⟩ : ∃ w9, Hid (w8.setCell ⟨g, nt, none⟩ (.bool true) = w9) := ⟨_, rfl⟩
              rw [hw9.out] at HI9 x0 x1 ⊢
              clear cs fz y0 y1 b8 HI8 HI7 hI7
              have HIA : Hid (RI w (w9.alloc (.cells #[.int .i64 tp, .int .i64 tq] 53)) g M (mark f' nt) gt' c' ts w5.heap.size (.slice (some ⟨gf, 0, none⟩) fs.length cf) fs) := hd (HI9.out.after ((Below.refl _ _).alloc (Nat.le_refl _) _))
              have oA := HIA.out.rs.todo
              have lA := HIA.out.rs.bel.size
              have hl1 := left_mark hsf M hnM
              have hl2 := HH.out.2.2.2.1
              have hl3 := HK.out
              have htl : ts.length ≤ 200000 := by omega
              go_wp2_with (first
                | (at_builtin; refine wpList_append_lies _ rfl _ _ 63 rfl w.heap.size 53 i1 (.agg #[.int .i64 0, .int .i64 0]) 2 16 Tryd.underlying63 hi1 hy0 hy1 hy2 rfl (by decide) (.slice (some ⟨gt', 0, none⟩) ts.length c') _ _ rfl oA ⟨_, 0, none⟩ 1 1 (stC (tp, tq)) rfl rfl (new_cells _ (stC (tp, tq)) _) (stC_one _) (by decide) (by unfold maxLen; omega) (by omega) lA _ rfl ?_
                   intro g4 c4 w4' o4 gr4 li4 lt4
                   have HIB := hd (HIA.out.push rfl o4 gr4 li4)
                   clear o4 gr4 li4 lt4 oA))
              go_roundg (gk - 1)
              case measure => omega
              case rel =>
              refine ⟨i + 1, g4, c4, ts ++ [(tp, tq)], mark f' nt, by rw [List.length_append, List.length_singleton], by go_num, by omega, hd ⟨HIB.out, ?_, ?_, by rw [List.length_append, List.length_singleton]; omega, ?_⟩⟩
              · refine (HH.out.2.1.push (c := 256 * p + s) (t := nt) (HH.out.2.1.todo' _ (by simp)) ?_).mem (fun t => ?_)
                · rw [hnx0.out, ← hnt.out]
                  refine List.mem_map.mpr ⟨(tp, tq), ?_, rfl⟩
                  rw [← htq.out, List.getD_eq_getElem?_getD, List.getElem?_eq_getElem hlt]
                  exact List.getElem_mem hlt
                · rw [← hnt.out]
                  simp only [List.mem_cons, List.map_append, List.mem_append, List.map_cons, List.map_nil, num, List.not_mem_nil, or_false]
                  constructor
                  · rintro (h | h | h)
                    · exact .inr (.inr h)
                    · exact .inl h
                    · exact .inr (.inl h)
                  · rintro (h | h | h)
                    · exact .inr (.inl h)
                    · exact .inr (.inr h)
                    · exact .inl h
              · intro t ht
                rcases List.mem_append.mp ht with ht | ht
                · exact HH.out.2.2.1 t ht
                · rw [List.mem_singleton.mp ht]
                  exact ⟨ht2, ht1⟩
              · intro j hj
                by_cases ej : j = i
                · rw [ej, htq.out]; unfold num; rw [hnt.out]; exact mark_self _ _
                · exact mark_true _ _ _ (HH.out.2.2.2.2 j (by omega))
          · have hltd : decide ((i : Int) < (fs.length : Int)) = false := by simp; omega
            have HF : Hid (Met l f' (ts.map num) e q) := hd (HH.out.2.1.right hwe0.out (fun t ht => by
              rw [hnx0.out] at ht
              obtain ⟨u, hu, rfl⟩ := List.mem_map.mp ht
              obtain ⟨j, hj, rfl⟩ := List.getElem_of_mem hu
              have := HH.out.2.2.2.2 j (by omega)
              rwa [List.getD_eq_getElem?_getD, List.getElem?_eq_getElem hj] at this))
            go_wp2_with fail
            go_roundg (2 * left f' M + ts.length)
            case measure => have := HK.out; have := HH.out.2.2.2.1; omega
            case rel => exact ⟨e, q, gt', c', ts, f', rfl, rfl, rfl, hd ⟨HH.out.1.rs, HF.out, HH.out.2.2.1, rfl, by have := HK.out; have := HH.out.2.2.2.1; omega⟩⟩
      · have d0 : (E != 0) = true := by simp [he]
        by_cases hpq : p < q
        · have hpq' : (p : Int) < (q : Int) := by omega
          have HM' : Hid (Met l f (ts'.map num) E p) := hd (by
            have := HM.out.wrong_less (by rw [hwe.out]; exact he) (by omega)
            rwa [hwe.out, show (256 * p + s) / 256 = p by omega] at this)
          clear he hF hnx hwe HM
          go_wp2_with fail
          go_region
          go_wp2_with fail
          go_roundg (2 * left f M + ts'.length)
          case measure => have := HK.out.1; omega
          case rel => exact ⟨E, p, gt, c, ts', f, rfl, rfl, by rw [hm.out], hd ⟨HR5.out.after (below_drewN (Below.refl _ _) 1), HM'.out, HT.out, rfl, by have := HK.out; omega⟩⟩
        · have hpq' : decide ((p : Int) < (q : Int)) = false := by simp; omega
          have HM' : Hid (Met l f (ts'.map num) e q) := hd (HM.out.wrong_more (by rw [hwe.out]; exact he) (by omega))
          clear he hF hnx hwe HM
          go_wp2_with fail
          go_roundg (2 * left f M + ts'.length)
          case measure => have := HK.out.1; omega
          case rel => exact ⟨e, q, gt, c, ts', f, rfl, rfl, by rw [hm.out], hd ⟨HR5.out, HM'.out, HT.out, rfl, by have := HK.out; omega⟩⟩
end Go.Proofs.YtehapcoppghppaaDoor
