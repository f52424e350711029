/- The document's side: all the stands of a program; the first that is wrong. -/
import Derived.Test.YtehapcoppghppaaDoorVR1
import Derived.Test.YtehapcoppghppaaDoorVW3
namespace Go.Proofs.YtehapcoppghppaaDoor
open Go.RowKit

/-- All stands that were met; those still to be gone on from. -/
structure Cl (l : List Ins) (f : Nat → Bool) (todo : List Nat) : Prop where
  rch : ∀ n, f n = true → Rch l n
  zero : f 0 = true
  todo' : ∀ t ∈ todo, f t = true
  done : ∀ n, f n = true → n ∈ todo ∨ ∀ t ∈ nxt l n, f t = true

theorem Cl.all {l : List Ins} {f : Nat → Bool} (h : Cl l f []) (n : Nat) : f n = true ↔ Rch l n := by
  refine ⟨h.rch n, fun hr => ?_⟩
  induction hr with
  | zero => exact h.zero
  | step _ ht ih =>
    rcases h.done _ ih with h1 | h1
    · cases h1
    · exact h1 _ ht
theorem cl_start (l : List Ins) : Cl l (mark (fun _ => false) 0) [0] where
  rch := (met_start l).rch
  zero := rfl
  todo' := (met_start l).todo'
  done := fun n hn => by
    rcases (met_start l).done n hn with h | h
    · exact .inl h
    · exact .inr h.1
theorem Cl.push {l : List Ins} {f : Nat → Bool} {a b : List Nat} {c t : Nat} (h : Cl l f a) (hc : f c = true) (ht : t ∈ nxt l c) (hb : ∀ u, u ∈ b ↔ u = t ∨ u ∈ a) : Cl l (mark f t) b where
  rch := fun n hn => by
    rcases mark_or hn with rfl | h1
    · exact .step (h.rch c hc) ht
    · exact h.rch n h1
  zero := mark_true f t 0 h.zero
  todo' := fun u hu => by
    rcases (hb u).mp hu with rfl | hu
    · exact mark_self f u
    · exact mark_true f t u (h.todo' u hu)
  done := fun n hn => by
    rcases mark_or hn with rfl | h1
    · exact .inl ((hb n).mpr (.inl rfl))
    · rcases h.done n h1 with h2 | h2
      · exact .inl ((hb n).mpr (.inr h2))
      · exact .inr fun u hu => mark_true f t u (h2 u hu)
theorem Cl.right {l : List Ins} {f : Nat → Bool} {a : List Nat} {c : Nat} (h : Cl l f (c :: a)) (hn : ∀ t ∈ nxt l c, f t = true) : Cl l f a where
  rch := h.rch
  zero := h.zero
  todo' := fun t ht => h.todo' t (by simp [ht])
  done := fun n hf => by
    rcases h.done n hf with h1 | h1
    · rcases List.mem_cons.mp h1 with rfl | h1
      · exact .inr hn
      · exact .inl h1
    · exact .inr h1

/-- What all has in hand. -/
structure AS (W wr : World) (g M : Nat) (f : Nat → Bool) (gt cap : Nat) (ts : List Nat) (B : Nat) (v : Value) (fs : List Nat) : Prop where
  met : Arr wr W.heap.size g 4 M (fun j => .bool (f j))
  list : Ns wr W.heap.size (.slice (some ⟨gt, 0, none⟩) ts.length cap) ts
  ne : gt ≠ g
  bel : Below W.heap.size W wr
  fo : Ns wr B v fs
  nf : ∀ b, v.ownBlock = some b → b ≠ g ∧ b ≠ gt

section
variable {W wr w' : World} {g M gt cap B : Nat} {f : Nat → Bool} {ts fs : List Nat} {v : Value}
theorem AS.after (h : AS W wr g M f gt cap ts B v fs) (hb : Below wr.heap.size wr w') : AS W w' g M f gt cap ts B v fs :=
  ⟨h.met.kept hb, h.list.kept hb, h.ne, h.bel.trans (hb.mono h.bel.size), h.fo.kept hb, h.nf⟩
theorem AS.mark (h : AS W wr g M f gt cap ts B v fs) (t : Nat) : AS W (wr.setCell ⟨g, t, none⟩ (.bool true)) g M (mark f t) gt cap ts B v fs := by
  obtain ⟨h1, h2⟩ := h.met.put t (.bool true)
  refine ⟨h1.ext fun i _ => ?_, h.list.grown h2 (.inr ?_), h.ne, h.bel.setCell h.met.lt.1 _, h.fo.grown h2 (.inr fun e => (h.nf g e.symm).1 rfl), h.nf⟩
  · unfold Go.Proofs.YtehapcoppghppaaDoor.mark
    split <;> rfl
  · simp only [Value.ownBlock]
    intro e
    exact h.ne (Option.some.inj e).symm
theorem AS.push {n g4 c4 t : Nat} (h : AS W wr g M f gt cap ts B v fs) (hn : n = ts.length)
    (o : w'.ownsRow W.heap.size 3 1 (.slice (some ⟨g4, 0, none⟩) (n + 1) c4) (n + 1) (nC ts ++ [.int .i64 (t : Int)])) (gr : wr.grownBy w' (some gt)) (li : some gt = some g4 ∨ g4 = wr.heap.size) : AS W w' g M f g4 c4 (ts ++ [t]) B v fs := by
  refine ⟨h.met.grown gr (fun e => h.ne (Option.some.inj e)), ?_, ?_, ?_, h.fo.grown gr (.inr fun e => (h.nf gt e.symm).2 rfl), fun b hb => ⟨(h.nf b hb).1, ?_⟩⟩
  · unfold Ns
    rw [nC_snoc, List.length_append, List.length_singleton, ← hn]
    exact o
  · rcases li with li | li
    · rw [← Option.some.inj li]; exact h.ne
    · have := h.met.lt.2
      omega
  · exact h.bel.grown gr h.bel.size (fun k hk => by cases hk; exact (World.ownsRow.lt h.list _ rfl).1)
  · rcases li with li | li
    · rw [← Option.some.inj li]; exact (h.nf b hb).2
    · have := (World.ownsRow.lt h.fo b hb).2
      omega
theorem AS.next {B' : Nat} {v' : Value} {fs' : List Nat} (h : AS W wr g M f gt cap ts B v fs) (hb : Below wr.heap.size wr w') (o : Ns w' wr.heap.size v' fs') (_ : B' = wr.heap.size) : AS W w' g M f gt cap ts wr.heap.size v' fs' := by
  have h2 := h.after hb
  refine ⟨h2.met, h2.list, h2.ne, h2.bel, o, fun b hb' => ?_⟩
  have h1 := (World.ownsRow.lt o b hb').1
  have h3 := h.met.lt.2
  have h4 := (World.ownsRow.lt h.list gt rfl).2
  omega
end

theorem drop_nat (S : List Nat) (i : Nat) (h : i < S.length) : S.drop i = S.getD i 0 :: S.drop (i + 1) := by
  rw [List.drop_eq_getElem_cons h, List.getD_eq_getElem?_getD, List.getElem?_eq_getElem h]
  rfl
theorem getD_mem {S : List Nat} {i : Nat} (h : i < S.length) : S.getD i 0 ∈ S := by
  rw [List.getD_eq_getElem?_getD, List.getElem?_eq_getElem h]
  exact List.getElem_mem h
theorem nxt_len (l : List Ins) (n : Nat) : (nxt l n).length ≤ 2 := by
  unfold nxt
  split
  · rw [List.length_map]; exact folP_len l _ _
  · simp

/-- What all tells. -/
def APost (w : World) (l : List Ins) (e : Ending) (w' : World) : Prop :=
  ∃ (g : Nat) (f : Nat → Bool), (∀ n, f n = true ↔ Rch l n) ∧ e = .returned (.slice (some ⟨g, 0, none⟩) (256 * (l.length + 1)) (256 * (l.length + 1))) ∧ Arr w' w.heap.size g 4 (256 * (l.length + 1)) (fun j => .bool (f j)) ∧ Below w.heap.size w w'

set_option maxRecDepth 100000 in
set_option maxHeartbeats 4000000 in
theorem all_any (a : Option Addr) (cap : Nat) (l : List Ins) (w : World) (hP : Prg w a l) (ok : Ok l) :
    Calls Tryd.prog 24 #[.slice a l.length cap] w (APost w l) := by
  obtain ⟨i0, hi0, hz0, hz1, hz2⟩ := info_parts infoB
  obtain ⟨i1, hi1, hy0, hy1, hy2⟩ := info_parts infoI
  have HP : Hid (Prg w a l) := hP
  have HO : Hid (Ok l) := ok
  have HL : Hid (l.length ≤ 256) := ok.len
  have hBe := fun (W : World) (h : Below w.heap.size w W) (n : Nat) (hn : n < 256 * (l.length + 1)) => behind_any a cap l n W (HP.out.kept h) HO.out hn
  obtain ⟨Q, hQ⟩ : ∃ Q, Hid (APost w l = Q) := ⟨_, rfl⟩
  rw [hQ.out]
  obtain ⟨N, hN⟩ : ∃ N, Hid (l.length = N) := ⟨_, rfl⟩
  rw [hN.out] at hBe HL ⊢
  have hN256 := HL.out
  obtain ⟨M, hM⟩ : ∃ M, Hid (256 * (N + 1) = M) := ⟨_, rfl⟩
  rw [hM.out] at hBe
  have hM1 : M ≤ 70000 := by have := hM.out; omega
  have hM0 : 0 < M := by have := hM.out; omega
  have hMi : 256 * ((N : Int) + 1) = (M : Int) := by have := hM.out; omega
  clear hP ok
  go_enter Tryd.func24, Tryd.ntmps24
  go_upto_region 2 with (refine wpList_make_full _ rfl _ _ 34 rfl w.heap.size 4 i0 (.bool false) 1 Tryd.underlying34 hi0 hz0 hz1 .i64 .i64 _ _ M rfl rfl (by first | rfl | exact hMi) (by first | rfl | exact hMi) (by rw [hz2]; omega) (by unfold maxLen; omega) (Nat.le_refl _) ?_; intro w2 ho2 hg2)
  have hb2 : Below w.heap.size w w2 := (Below.refl _ _).grown hg2 (Nat.le_refl _) (fun k hk => by cases hk)
  rw [made_arr (.bool false) rfl M] at ho2
  have hA2 : Arr w2 w.heap.size w.heap.size 4 M (fun _ => .bool false) := ho2
  obtain ⟨g, hg⟩ : ∃ g, Hid (w.heap.size = g) := ⟨_, rfl⟩
  have c2 := hA2.cell 0 hM0
  have r2 := hA2.free 0
  have hA3 := hA2.put 0 (.bool true)
  have HS3 : Hid (AS w ((w2.setCell ⟨w.heap.size, 0, none⟩ (.bool true)).alloc (.cells #[.int .i64 0] 3)) w.heap.size M (mark (fun _ => false) 0) (w2.setCell ⟨w.heap.size, 0, none⟩ (.bool true)).heap.size 1 [0] 0 (.slice none 0 0) []) := hd (by
    have hb3 := hb2.setCell (p := ⟨w.heap.size, 0, none⟩) (Nat.le_refl _) (.bool true)
    refine ⟨Arr.kept (hA3.1.ext fun i _ => ?_) ((Below.refl _ _).alloc (Nat.le_refl _) _), ns_one hb3.size rfl rfl, ?_, hb3.alloc hb3.size _, ns_nil _ _, fun b hb => by cases hb⟩
    · unfold mark; split <;> rfl
    · have := hA3.1.lt.2
      omega)
  clear ho2 hg2 hA2 hA3 hi0 hz0 hz1 hz2
  go_upto_region 3 with fail
  obtain ⟨w4, hw4⟩ : ∃ w4, Hid (w2.setCell ⟨w.heap.size, 0, none⟩ (.bool true) = w4) := ⟨_, rfl⟩
  rw [hw4.out] at HS3 ⊢
  rw [hg.out] at HS3 ⊢
  clear c2 r2 hb2
  go_wp2_with fail
  go_loopg [4, 5] M (fun k v4 v5 wr => ∃ (i gt c : Nat) (ts : List Nat) (f : Nat → Bool) (B : Nat) (v : Value) (fs : List Nat), v4 = .slice (some ⟨gt, 0, none⟩) ts.length c ∧ v5 = .int .i64 (i : Int) ∧ i + k = M ∧ Hid (AS w wr g M f gt c ts B v fs ∧ Cl l f (ts.drop i) ∧ (∀ t ∈ ts, t < M) ∧ ts.length + left f M = M ∧ i ≤ ts.length))
  case atStart => exact ⟨0, _, 1, [0], _, 0, _, [], rfl, rfl, by omega, hd ⟨HS3.out, cl_start l, by simp; exact hM0, by
    have := left_mark (f := fun _ => false) (t := 0) rfl M hM0
    have h2 : ∀ n, left (fun _ => false) n = n := fun n => by
      induction n with
      | zero => rfl
      | succ n ih => unfold left; rw [ih]; simp
    have := h2 M
    simp only [List.length_singleton]
    omega, by simp⟩⟩
  case round =>
    obtain ⟨i, gt, c, ts, f, B, v, fs, rfl, rfl, hik, HR⟩ := hrel
    clear HS3
    have htl : ts.length ≤ 70000 := by have := HR.out.2.2.2.1; omega
    by_cases hlt : i < ts.length
    · have hlt' : (i : Int) < (ts.length : Int) := by omega
      obtain ⟨a1, c1, e1, hc1, C1⟩ := HR.out.1.list.form
      obtain ⟨g1, ea, _, k0⟩ := C1 i hlt
      simp only [Value.slice.injEq] at e1
      obtain ⟨rfl, -, rfl⟩ := e1
      cases ea
      have hcm := HR.out.2.2.1 _ (getD_mem hlt)
      have HC : Hid (Cl l f (ts.getD i 0 :: ts.drop (i + 1))) := hd (by rw [← drop_nat ts i hlt]; exact HR.out.2.1)
      have HD : Hid (ts.drop i = ts.getD i 0 :: ts.drop (i + 1)) := hd (drop_nat ts i hlt)
      obtain ⟨cu, hcu⟩ : ∃ cu, Hid (ts.getD i 0 = cu) := ⟨_, rfl⟩
      rw [hcu.out] at k0 hcm HC
      have hB := hBe wr HR.out.1.bel cu hcm
      have hfl : Hid (∀ t ∈ nxt l cu, t < M) := hd (fun t ht => by have := nxt_lt HO.out ht; rwa [hN.out, hM.out] at this)
      have hfl2 : (nxt l cu).length ≤ 2 := nxt_len l cu
      clear C1 hc1
      go_upto_region 8 with (go_at_call 32; refine hB.mono ?_; rintro e6 w6 ⟨v6, rfl, o6, b6⟩)
      have HA6 : Hid (AS w w6 g M f gt c ts wr.heap.size v6 (nxt l cu)) := hd (HR.out.1.next b6 o6 rfl)
      obtain ⟨fs', hfs⟩ : ∃ fs', Hid (nxt l cu = fs') := ⟨_, rfl⟩
      rw [hfs.out] at HA6 hfl hfl2 o6
      obtain ⟨af, cf, rfl, hcf, _⟩ := o6.form
      have HK : Hid (ts.length + left f M = M) := hd HR.out.2.2.2.1
      have HT : Hid (∀ t ∈ ts, t < M) := hd HR.out.2.2.1
      clear o6 b6 hB k0 HR
      go_wp2_with fail
      go_loopg [4, 7] (fs'.length) (fun k v4 v7 wi => ∃ (j gt c : Nat) (us : List Nat) (f' : Nat → Bool), v4 = .slice (some ⟨gt, 0, none⟩) us.length c ∧ v7 = .int .i64 (j : Int) ∧ j + k = fs'.length ∧
        Hid (AS w wi g M f' gt c us wr.heap.size (.slice af fs'.length cf) fs' ∧ Cl l f' (cu :: us.drop (i + 1)) ∧ (∀ t ∈ us, t < M) ∧ us.length + left f' M = M ∧ i + 1 ≤ us.length ∧ ∀ q, q < j → f' (fs'.getD q 0) = true))
      case atStart => exact ⟨0, gt, c, ts, f, rfl, rfl, by omega, hd ⟨HA6.out, HC.out, HT.out, HK.out, by omega, fun q hq => absurd hq (Nat.not_lt_zero q)⟩⟩
      case round =>
        obtain ⟨j, gt', c', us, f', rfl, rfl, hjk, HH⟩ := hrel
        clear HA6
        have hul : us.length ≤ 70000 := by have := HH.out.2.2.2.1; omega
        by_cases hlt2 : j < fs'.length
        · have hlt2' : (j : Int) < (fs'.length : Int) := by omega
          obtain ⟨a1, c1, e1, hc1, C1⟩ := HH.out.1.fo.form
          obtain ⟨g1, ea, _, k0⟩ := C1 j hlt2
          simp only [Value.slice.injEq] at e1
          obtain ⟨rfl, -, rfl⟩ := e1
          subst ea
          have hnM := hfl.out _ (getD_mem hlt2)
          have Hmm : Hid (fs'.getD j 0 ∈ nxt l cu) := hd (by rw [hfs.out]; exact getD_mem hlt2)
          obtain ⟨nt, hnt⟩ : ∃ nt, Hid (fs'.getD j 0 = nt) := ⟨_, rfl⟩
          rw [hnt.out] at k0 hnM Hmm
          have hnM' : (nt : Int) < (M : Int) := by omega
          have cs := HH.out.1.met.cell nt hnM
          have fz := HH.out.1.met.free nt
          clear C1 hc1
          by_cases hs : f' nt = true
          · rw [hs] at cs
            go_wp2_with fail
            go_roundg (gk - 1)
            case measure => omega
            case rel => exact ⟨j + 1, gt', c', us, f', rfl, by go_num, by omega, hd ⟨HH.out.1, HH.out.2.1, HH.out.2.2.1, HH.out.2.2.2.1, HH.out.2.2.2.2.1, fun q hq => by
              by_cases ej : q = j
              · rw [ej, hnt.out]; exact hs
              · exact HH.out.2.2.2.2.2 q (by omega)⟩⟩
          · have hsf : f' nt = false := by simpa using hs
            rw [hsf] at cs
            have HI9 : Hid (AS w (wr.setCell ⟨g, nt, none⟩ (.bool true)) g M (mark f' nt) gt' c' us _ (.slice (some ⟨g1, 0, none⟩) fs'.length cf) fs') := hd (HH.out.1.mark nt)
            have x0 : (wr.setCell ⟨g, nt, none⟩ (.bool true)).cell? ⟨g1, j, none⟩ = some (.int .i64 (nt : Int)) := (HH.out.1.met.put nt (.bool true)).2.cell k0 (by have := (HH.out.1.nf g1 rfl).1; simp; omega)
            go_upto_region 13 with fail
            obtain ⟨w9, hw9⟩ : ∃ w9, Hid (wr.setCell ⟨g, nt, none⟩ (.bool true) = w9) := ⟨_, rfl⟩
            rw [hw9.out] at HI9 x0 ⊢
            clear cs fz k0
            have HIA : Hid (AS w (w9.alloc (.cells #[.int .i64 (nt : Int)] 3)) g M (mark f' nt) gt' c' us _ (.slice (some ⟨g1, 0, none⟩) fs'.length cf) fs') := hd (HI9.out.after ((Below.refl _ _).alloc (Nat.le_refl _) _))
            have oA := HIA.out.list
            have lA := HIA.out.bel.size
            have hl1 := left_mark hsf M hnM
            have hl2 := HH.out.2.2.2.1
            go_wp2_with (first
              | (at_builtin; refine wpList_append_lies _ rfl _ _ 46 rfl w.heap.size 3 i1 (.int .i64 0) 1 8 Tryd.underlying46 hi1 hy0 hy1 hy2 rfl (by decide) (.slice (some ⟨gt', 0, none⟩) us.length c') _ _ rfl oA ⟨_, 0, none⟩ 1 1 [.int .i64 (nt : Int)] rfl rfl (new_cells _ [.int .i64 (nt : Int)] _) (by simp [Value.oneCell']) (by decide) (by unfold maxLen; omega) (by omega) lA _ rfl ?_
                 intro g4 c4 w4' o4 gr4 li4 lt4
                 have HIB := hd (HIA.out.push rfl o4 gr4 li4)
                 clear o4 gr4 li4 lt4 oA))
            go_roundg (gk - 1)
            case measure => omega
            case rel =>
              refine ⟨j + 1, g4, c4, us ++ [nt], mark f' nt, by rw [List.length_append, List.length_singleton], by go_num, by omega, hd ⟨HIB.out, ?_, ?_, by rw [List.length_append, List.length_singleton]; omega, by have := HH.out.2.2.2.2.1; rw [List.length_append, List.length_singleton]; omega, ?_⟩⟩
              · refine HH.out.2.1.push (HH.out.2.1.todo' cu (by simp)) Hmm.out (fun u => ?_)
                rw [List.drop_append_of_le_length HH.out.2.2.2.2.1]
                simp only [List.mem_cons, List.mem_append, List.not_mem_nil, or_false]
                constructor
                · rintro (h | h | h)
                  · exact .inr (.inl h)
                  · exact .inr (.inr h)
                  · exact .inl h
                · rintro (h | h | h)
                  · exact .inr (.inr h)
                  · exact .inl h
                  · exact .inr (.inl h)
              · intro t ht
                rcases List.mem_append.mp ht with ht | ht
                · exact HH.out.2.2.1 t ht
                · rw [List.mem_singleton.mp ht]; exact hnM
              · intro q hq
                by_cases ej : q = j
                · rw [ej, hnt.out]; exact mark_self _ _
                · exact mark_true _ _ _ (HH.out.2.2.2.2.2 q (by omega))
        · have hltd : decide ((j : Int) < (fs'.length : Int)) = false := by simp; omega
          have HF : Hid (Cl l f' (us.drop (i + 1))) := hd (HH.out.2.1.right (fun t ht => by
            rw [hfs.out] at ht
            obtain ⟨q, hq, rfl⟩ := List.getElem_of_mem ht
            have := HH.out.2.2.2.2.2 q (by omega)
            rwa [List.getD_eq_getElem?_getD, List.getElem?_eq_getElem hq] at this))
          go_wp2_with fail
          have hiM : i < M := by have := HK.out; omega
          go_roundg (M - (i + 1))
          case measure => omega
          case rel => exact ⟨i + 1, gt', c', us, f', _, _, fs', rfl, by go_num, by omega, hd ⟨HH.out.1, HF.out, HH.out.2.2.1, HH.out.2.2.2.1, HH.out.2.2.2.2.1⟩⟩
    · have hltd : decide ((i : Int) < (ts.length : Int)) = false := by simp; omega
      have HF : Hid (Q (.returned (.slice (some ⟨g, 0, none⟩) M M)) wr) := hd (by
        rw [← hQ.out]
        have h1 : ts.drop i = [] := List.drop_eq_nil_of_le (by omega)
        have h2 := HR.out.2.1
        rw [h1] at h2
        refine ⟨g, f, h2.all, ?_, ?_, HR.out.1.bel⟩
        · rw [hN.out, hM.out]
        · rw [hN.out, hM.out]; exact HR.out.1.met)
      go_wp2_with fail
      exact HF.out

set_option maxRecDepth 100000 in
set_option maxHeartbeats 4000000 in
theorem first_any (a : Option Addr) (cap : Nat) (l : List Ins) (g B M : Nat) (f : Nat → Bool) (w : World) (hP : Prg w a l) (ok : Ok l) (hM : 256 * (l.length + 1) = M) (hf : ∀ n, f n = true ↔ Rch l n) (hA : Arr w B g 4 M (fun j => .bool (f j))) :
    Calls Tryd.prog 23 #[.slice a l.length cap, .slice (some ⟨g, 0, none⟩) M M] w fun e w' => (((∀ n, Rch l n → wrE l n = 0) ∧ e = .returned (.tuple #[.int .i64 0, .int .i64 0])) ∨ ∃ er p, IsW l er p ∧ e = .returned (.tuple #[.int .i64 er, .int .i64 (p : Int)])) ∧ Below w.heap.size w w' := by
  have HP : Hid (Prg w a l) := hP
  have HO : Hid (Ok l) := ok
  have HL : Hid (l.length ≤ 256) := ok.len
  have HM : Hid (256 * (l.length + 1) = M) := hM
  have HF : Hid (∀ n, f n = true ↔ Rch l n) := hf
  have HA : Hid (Arr w B g 4 M (fun j => .bool (f j))) := hA
  obtain ⟨Q, hQ⟩ : ∃ Q : Ending → Prop, Hid ((fun e => ((∀ n, Rch l n → wrE l n = 0) ∧ e = .returned (.tuple #[.int .i64 0, .int .i64 0])) ∨ ∃ er p, IsW l er p ∧ e = .returned (.tuple #[.int .i64 er, .int .i64 ((p : Nat) : Int)])) = Q) := ⟨_, rfl⟩
  have hQ' : ∀ e, (((∀ n, Rch l n → wrE l n = 0) ∧ e = .returned (.tuple #[.int .i64 0, .int .i64 0])) ∨ ∃ er p, IsW l er p ∧ e = .returned (.tuple #[.int .i64 er, .int .i64 ((p : Nat) : Int)])) = Q e := fun e => by rw [← hQ.out]
  simp only [hQ']
  clear hQ'
  obtain ⟨N, hN⟩ : ∃ N, Hid (l.length = N) := ⟨_, rfl⟩
  rw [hN.out] at HL HM ⊢
  have hN256 := HL.out
  have hM1 : 256 * (N + 1) = M := HM.out
  obtain ⟨T, hT⟩ : ∃ T : Nat, Hid (256 * N = T) := ⟨_, hd rfl⟩
  have hTi : 256 * (N : Int) = (T : Int) := by have := hT.out; omega
  have hTM : T < M := by have := hT.out; omega
  have hTb : T ≤ 70000 := by have := hT.out; omega
  clear hP ok hM hf hA hM1
  go_enter Tryd.func23, Tryd.ntmps23
  go_wp2_with fail
  go_loopg [6] T (fun k v6 wr => ∃ n : Nat, v6 = .int .i64 (n : Int) ∧ n + k = T ∧ Hid ((∀ m, m < n → Rch l m → wrE l m = 0) ∧ Below w.heap.size w wr))
  case atStart => exact ⟨0, rfl, by omega, hd ⟨fun m hm => absurd hm (Nat.not_lt_zero m), Below.refl _ _⟩⟩
  case round =>
    obtain ⟨n, rfl, hnk, HH⟩ := hrel
    by_cases hlt : n < T
    · have hlt' : (n : Int) < (T : Int) := by omega
      have hnM : n < M := by omega
      have hnM' : (n : Int) < (M : Int) := by omega
      have cs := (HA.out.kept HH.out.2).cell n hnM
      by_cases hfn : f n = true
      · rw [hfn] at cs
        have hpn : n / 256 < N := by have := hT.out; omega
        obtain ⟨b, off, rfl, hx⟩ := HP.out (n / 256) (by rw [hN.out]; exact hpn)
        have hx := hx.kept HH.out.2
        have hWr := rwrong_any (l.getD (n / 256) default) (n % 256) wr (by omega) (HO.out.imm (by rw [hN.out]; exact hpn))
        have HWE : Hid (wrE l n = wrX (l.getD (n / 256) default) (n % 256)) := hd (by unfold wrE wrP; rw [if_neg (by rw [hN.out]; omega)])
        obtain ⟨E, hE⟩ : ∃ E, wrX (l.getD (n / 256) default) (n % 256) = E := ⟨_, rfl⟩
        rw [hE] at hWr HWE
        clear hE
        have HPl : Hid (∀ m, Rch l m → wrE l m ≠ 0 → n / 256 ≤ m / 256) := hd (fun m hm hw => by
          rcases Nat.lt_or_ge m n with h | h
          · exact absurd (HH.out.1 m h hm) hw
          · omega)
        have q3 : (n : Int).tdiv 256 = ((n / 256 : Nat) : Int) := by rw [Int.tdiv_eq_ediv_of_nonneg (by omega)]; omega
        have q4 : (n : Int).tmod 256 = ((n % 256 : Nat) : Int) := by rw [Int.tmod_eq_emod_of_nonneg (by omega)]; omega
        obtain ⟨p, hp⟩ : ∃ p, Hid (n / 256 = p) := ⟨_, rfl⟩
        obtain ⟨s, hs⟩ : ∃ s, Hid (n % 256 = s) := ⟨_, rfl⟩
        rw [hp.out] at q3 hx HPl hpn hWr
        rw [hs.out] at q4 hWr
        have hpb : p ≤ 256 := by omega
        have hpn' : (p : Int) < (N : Int) := by omega
        obtain ⟨k0, k1, k2, k3, k4⟩ := hx
        generalize l.getD p default = X at *
        unfold insV at hWr
        by_cases he : E = 0
        · have de : (E != 0) = false := by simp [he]
          have HN : Hid (∀ m, m < n + 1 → Rch l m → wrE l m = 0) := hd (fun m hm hr => by
            by_cases e : m = n
            · rw [e, HWE.out]; exact he
            · exact HH.out.1 m (by omega) hr)
          clear he
          go_wp2_with (go_at_call 31; refine hWr.mono ?_; rintro e1 w1 ⟨rfl, b1⟩)
          go_roundg (gk - 1)
          case measure => omega
          case rel => exact ⟨n + 1, by go_num, by omega, hd ⟨HN.out, HH.out.2.trans (b1.mono HH.out.2.size)⟩⟩
        · have de : (E != 0) = true := by simpa using he
          have HQ : Hid (Q (.returned (.tuple #[.int .i64 E, .int .i64 (p : Int)]))) := hd (by
            rw [← hQ.out]
            exact .inr ⟨E, p, ⟨⟨n, (HF.out n).mp hfn, HWE.out, hp.out⟩, he, HPl.out⟩, rfl⟩)
          clear he
          go_wp2_with (go_at_call 31; refine hWr.mono ?_; rintro e1 w1 ⟨rfl, b1⟩)
          go_ret2
          exact ⟨HQ.out, HH.out.2.trans (b1.mono HH.out.2.size)⟩
      · have hff : f n = false := by simpa using hfn
        rw [hff] at cs
        have HN : Hid (∀ m, m < n + 1 → Rch l m → wrE l m = 0) := hd (fun m hm hr => by
          by_cases e : m = n
          · exact absurd ((HF.out n).mpr (e ▸ hr)) hfn
          · exact HH.out.1 m (by omega) hr)
        go_wp2_with fail
        go_roundg (gk - 1)
        case measure => omega
        case rel => exact ⟨n + 1, by go_num, by omega, hd ⟨HN.out, HH.out.2⟩⟩
    · have hltd : decide ((n : Int) < (T : Int)) = false := by simp; omega
      have HQ : Hid (Q (.returned (.tuple #[.int .i64 0, .int .i64 0]))) := hd (by
        rw [← hQ.out]
        refine .inl ⟨fun m hm => ?_, rfl⟩
        rcases Nat.lt_or_ge m n with h | h
        · exact HH.out.1 m h hm
        · refine Classical.byContradiction fun hw => ?_
          have := wrE_place hw
          have := hT.out
          have := hN.out
          omega)
      go_wp2_with fail
      go_ret2
      exact ⟨HQ.out, HH.out.2⟩
end Go.Proofs.YtehapcoppghppaaDoor
