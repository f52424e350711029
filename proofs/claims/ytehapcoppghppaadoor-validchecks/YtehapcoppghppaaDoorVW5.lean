/- holds: the holds of a program, or what is wrong. -/
import Derived.Test.YtehapcoppghppaaDoorVW4
namespace Go.Proofs.YtehapcoppghppaaDoor
open Go.RowKit

theorem infoP : (Tryd.prog.info? 45).map (fun i => (i.zero, i.size, i.bytes)) = some (some (.agg #[.int .i64 0, .int .i64 0]), 2, 16) := by kernel_rfl

/-- Holds in memory. -/
def spC (t : Nat × Int) : List Value := [.int .i64 t.1, .int .i64 t.2]
def pC (ts : List (Nat × Int)) : List Value := ts.flatMap spC
theorem pC_len (ts : List (Nat × Int)) : (pC ts).length = ts.length * 2 := by
  induction ts with
  | nil => rfl
  | cons x r ih => simp only [pC, List.flatMap_cons, List.length_append, List.length_cons] at *; rw [ih, show (spC x).length = 2 from rfl]; omega
theorem pC_snoc (ts : List (Nat × Int)) (t : Nat × Int) : pC (ts ++ [t]) = pC ts ++ spC t := by simp [pC]
theorem pC_at : ∀ (ts : List (Nat × Int)) (i : Nat), i < ts.length → (pC ts)[i * 2]? = some (.int .i64 (ts.getD i (0, 0)).1) ∧ (pC ts)[i * 2 + 1]? = some (.int .i64 (ts.getD i (0, 0)).2)
  | [], i, h => absurd h (Nat.not_lt_zero i)
  | t :: ts, 0, _ => ⟨rfl, rfl⟩
  | t :: ts, i + 1, h => by
    have ih := pC_at ts i (by simpa using h)
    simp only [pC, List.flatMap_cons, List.getD_cons_succ] at *
    rw [List.getElem?_append_right (by rw [show (spC t).length = 2 from rfl]; omega), List.getElem?_append_right (by rw [show (spC t).length = 2 from rfl]; omega), show (spC t).length = 2 from rfl, show (i + 1) * 2 - 2 = i * 2 by omega, show (i + 1) * 2 + 1 - 2 = i * 2 + 1 by omega]
    exact ih
theorem spC_one (t : Nat × Int) : ∀ u ∈ spC t, u.oneCell' = true := by
  intro u hu
  simp only [spC, List.mem_cons, List.not_mem_nil, or_false] at hu
  rcases hu with rfl | rfl <;> rfl

def Spn (w : World) (B : Nat) (v : Value) (ts : List (Nat × Int)) : Prop := w.ownsRow B 45 2 v ts.length (pC ts)
theorem Spn.kept {w w' : World} {B : Nat} {v : Value} {ts : List (Nat × Int)} (h : Spn w B v ts) (hb : Below w.heap.size w w') : Spn w' B v ts := owns_below h hb
theorem Spn.grown {w w' : World} {B : Nat} {v : Value} {ts : List (Nat × Int)} {r : Option Nat} (h : Spn w B v ts) (hg : w.grownBy w' r) (hr : r = none ∨ r ≠ v.ownBlock) : Spn w' B v ts :=
  owns_grown h hg (fun b hb => by
    rcases hr with rfl | hr
    · simp
    · rw [← hb]; exact fun e => hr e.symm)
theorem Spn.form {w : World} {B : Nat} {v : Value} {ts : List (Nat × Int)} (h : Spn w B v ts) : ∃ a cap, v = .slice a ts.length cap ∧ ts.length ≤ cap ∧ ∀ i, i < ts.length → ∃ g, a = some ⟨g, 0, none⟩ ∧ B ≤ g ∧ w.cell? ⟨g, i * 2, none⟩ = some (.int .i64 (ts.getD i (0, 0)).1) ∧ w.cell? ⟨g, i * 2 + 1, none⟩ = some (.int .i64 (ts.getD i (0, 0)).2) := by
  rcases h.2 with ⟨h1, h2⟩ | ⟨g, cap, cur, h1, h2, h3, h4, _⟩
  · exact ⟨none, 0, by rw [h1, h2], by omega, fun i hi => by omega⟩
  · refine ⟨_, cap, h1, h4, fun i hi => ⟨g, rfl, h2, ?_, ?_⟩⟩
    · rw [h1] at h
      rw [World.ownsRow.cellAt h _ (by omega)]
      exact (pC_at ts i hi).1
    · rw [h1] at h
      rw [World.ownsRow.cellAt h _ (by omega)]
      exact (pC_at ts i hi).2

/-- What holds has in hand. -/
structure HS (w wr : World) (gs gu M : Nat) (f : Nat → Bool) (G : Nat → Int) (v : Value) (ts : List (Nat × Int)) : Prop where
  seen : Arr wr w.heap.size gs 4 M (fun j => .bool (f j))
  units : Arr wr w.heap.size gu 3 M (iF G)
  spans : Spn wr w.heap.size v ts
  ne : gs ≠ gu
  nv : ∀ b, v.ownBlock = some b → b ≠ gs ∧ b ≠ gu
  bel : Below w.heap.size w wr

section
variable {w wr w' : World} {gs gu M : Nat} {f : Nat → Bool} {G : Nat → Int} {v : Value} {ts : List (Nat × Int)}
theorem HS.after (h : HS w wr gs gu M f G v ts) (hb : Below wr.heap.size wr w') : HS w w' gs gu M f G v ts :=
  ⟨h.seen.kept hb, h.units.kept hb, h.spans.kept hb, h.ne, h.nv, h.bel.trans (hb.mono h.bel.size)⟩
theorem HS.measured {G' : Nat → Int} (h : HS w wr gs gu M f G v ts) (hA : Arr w' w.heap.size gu 3 M (iF G')) (hg : wr.grownBy w' (some gu)) : HS w w' gs gu M f G' v ts :=
  ⟨h.seen.grown hg (fun e => h.ne (Option.some.inj e).symm), hA, h.spans.grown hg (.inr fun e => (h.nv gu e.symm).2 rfl), h.ne, h.nv, h.bel.grown hg h.bel.size (fun k hk => by cases hk; exact h.units.lt.1)⟩
theorem HS.push {n g4 c4 : Nat} {t : Nat × Int} (h : HS w wr gs gu M f G v ts) (hn : n = ts.length)
    (o : w'.ownsRow w.heap.size 45 2 (.slice (some ⟨g4, 0, none⟩) (n + 1) c4) (n + 1) (pC ts ++ spC t)) (gr : wr.grownBy w' v.ownBlock) (li : v.ownBlock = some g4 ∨ g4 = wr.heap.size) : HS w w' gs gu M f G (.slice (some ⟨g4, 0, none⟩) (n + 1) c4) (ts ++ [t]) := by
  refine ⟨h.seen.grown gr (fun e => (h.nv _ e).1 rfl), h.units.grown gr (fun e => (h.nv _ e).2 rfl), ?_, h.ne, ?_, ?_⟩
  · unfold Spn
    rw [pC_snoc, List.length_append, List.length_singleton, ← hn]
    exact o
  · intro b hb
    have hb' : g4 = b := Option.some.inj hb
    subst hb'
    rcases li with li | li
    · exact h.nv _ li
    · have := h.seen.lt.2
      have := h.units.lt.2
      omega
  · exact h.bel.grown gr h.bel.size (fun k hk => (World.ownsRow.lt h.spans k hk).1)
end

theorem spT_at {l : List Ins} {i : Nat} (h : isH l i) : spT l (i + 1) = spT l i ++ [(i, un l (st1 l i))] := by
  show spT l i ++ spF l i = _
  unfold spF
  rw [if_pos h]
theorem spT_no {l : List Ins} {i : Nat} (h : ¬ isH l i) : spT l (i + 1) = spT l i := by
  show spT l i ++ spF l i = _
  unfold spF
  rw [if_neg h, List.append_nil]
theorem spT_len (l : List Ins) : ∀ i, (spT l i).length ≤ i
  | 0 => Nat.le_refl _
  | i + 1 => by
    have := spT_len l i
    by_cases h : isH l i
    · rw [spT_at h, List.length_append, List.length_singleton]; omega
    · rw [spT_no h]; omega

theorem rch_st1 {l : List Ins} {i k : Nat} (hW : ∀ n, Rch l n → wrE l n = 0) (hi : i < l.length) (h : isH l i) (hk : (l.getD i default).imm = k) : Rch l (256 * (i + 1) + 2 ^ k) ∧ st1 l i = 256 * (i + 1) + 2 ^ k := by
  refine ⟨.step h.2 ?_, by unfold st1; rw [hk, Int.toNat_natCast]⟩
  have h1 := hW _ h.2
  have h2 := nxt_num l (p := i) (s := 0) (by decide) (by rw [← wrE_num l (by decide)]; exact h1)
  rw [Nat.add_zero] at h2
  rw [h2]
  unfold folP
  rw [if_neg (by omega), fo29 h.1 hk]
  simp [num, upS]

/-- What holds tells. -/
def HPost (w : World) (l : List Ins) (k : Int) (e : Ending) (w' : World) : Prop :=
  ((erL l k).1 ≠ 0 ∧ e = .returned (.tuple #[.slice none 0 0, .int .i64 (erL l k).1, .int .i64 (erL l k).2]) ∧ Below w.heap.size w w') ∨
  ((erL l k).1 = 0 ∧ Ok l ∧ ∃ v, e = .returned (.tuple #[v, .int .i64 0, .int .i64 0]) ∧ Spn w' w.heap.size v (spL l) ∧ Below w.heap.size w w')

set_option maxRecDepth 100000 in
set_option maxHeartbeats 4000000 in
theorem holds_any (a : Option Addr) (cap : Nat) (l : List Ins) (k : Int) (w : World) (hP : Prg w a l) (hF : Fld w) :
    Calls Tryd.prog 15 #[.slice a l.length cap, .int .i64 k] w (HPost w l k) := by
  have hMy := may_any a cap l k w hP hF
  obtain ⟨Q, hQ⟩ : ∃ Q, Hid (HPost w l k = Q) := ⟨_, rfl⟩
  rw [hQ.out]
  by_cases hm : (mayL l k).1 = 0
  · obtain ⟨ok, hk0, hk8, em, hlk⟩ := ok_of_may hm
    rw [em] at hMy
    obtain ⟨i0, hi0, hz0, hz1, hz2⟩ := info_parts infoI
    obtain ⟨i1, hi1, hy0, hy1, hy2⟩ := info_parts infoP
    have HP : Hid (Prg w a l) := hP
    have HO : Hid (Ok l) := ok
    have HL : Hid (l.length ≤ 256) := ok.len
    have HM0 : Hid ((mayL l k).1 = 0) := hm
    have hRe := fun (W : World) (h : Below w.heap.size w W) => reach_any a cap l W (HP.out.kept h) HO.out
    have hMe := fun (p0 s0 gu M : Nat) (G0 : Nat → Int) (W : World) (hM : 256 * (l.length + 1) = M) (hb : Below w.heap.size w W) (hW : ∀ n, Rch l n → wrE l n = 0) (hr : Rch l (256 * p0 + s0)) (hs0 : s0 < 256) (hp0 : p0 ≤ l.length) (hA : Arr W w.heap.size gu 3 M (iF G0)) (hU : UInv l G0) (hG : ∀ i, 0 ≤ G0 i ∧ G0 i ≤ INF) => measure_any w a cap l p0 s0 gu M G0 W HP.out HO.out hM hb hW hr hs0 hp0 hA hU hG
    obtain ⟨N, hN⟩ : ∃ N, Hid (l.length = N) := ⟨_, rfl⟩
    rw [hN.out] at hMy hRe HL hMe ⊢
    have hN256 := HL.out
    clear hP hF ok hm hk0 hk8 em hlk
    go_enter Tryd.func15, Tryd.ntmps15
    go_upto_region 5 with (first
      | (go_at_call 14; refine hMy.mono ?_; rintro e1 w1 ⟨rfl, b1⟩)
      | (go_at_call 19; refine (hRe _ b1).mono ?_; rintro e2 w2 (⟨er, pw, hw, rfl, b2⟩ | ⟨hW, gs, f, hf, rfl, hAs, b2⟩)))
    · have de : (er != 0) = true := by simpa using hw.2.1
      have HF : Hid (Q (.returned (.tuple #[.slice none 0 0, .int .i64 er, .int .i64 (pw : Int)])) w2) := hd (by
        rw [← hQ.out]
        refine .inl ?_
        rw [erL_wrong HM0.out hw]
        exact ⟨hw.2.1, rfl, b1.trans (b2.mono b1.size)⟩)
      clear hw
      go_wp2_with fail
      go_ret3
      exact HF.out
    · have HW : Hid (∀ n, Rch l n → wrE l n = 0) := hd hW
      have HF : Hid (∀ n, f n = true ↔ Rch l n) := hd hf
      have HFin : Hid (∀ v w', Spn w' w.heap.size v (spL l) → Below w.heap.size w w' → Q (.returned (.tuple #[v, .int .i64 0, .int .i64 0])) w') := hd (fun v w' h1 h2 => by
        rw [← hQ.out]
        have := erL_ok HM0.out HW.out
        exact .inr ⟨by rw [this], HO.out, v, rfl, h1, h2⟩)
      rw [hN.out] at hAs ⊢
      obtain ⟨M, hM⟩ : ∃ M, Hid (256 * (N + 1) = M) := ⟨_, rfl⟩
      have hM1 : M ≤ 70000 := by have := hM.out; omega
      rw [hM.out] at hAs ⊢
      have B2 := b1.trans (b2.mono b1.size)
      have HAs : Hid (Arr w2 w.heap.size gs 4 M (fun j => .bool (f j))) := hd (by
        rcases hAs.2 with ⟨h1, _⟩ | ⟨g', c', cur, h1, h2, h3⟩
        · cases h1
        · exact ⟨hAs.1, .inr ⟨g', c', cur, h1, Nat.le_trans b1.size h2, h3⟩⟩)
      clear hW hf hRe hMy hAs b1 b2
      go_upto_region 9 with (refine wpList_make_full _ rfl _ _ 46 rfl w.heap.size 3 i0 (.int .i64 0) 1 Tryd.underlying46 hi0 hz0 hz1 .i64 .i64 _ _ M rfl rfl rfl rfl (by rw [hz2]; omega) (by unfold maxLen; omega) B2.size ?_; intro w3 ho3 hg3)
      rw [made_arr (.int .i64 0) rfl M] at ho3
      have HH0 : Hid (HS w w3 gs w2.heap.size M f (fun _ => 0) (.slice none 0 0) []) := hd
        ⟨HAs.out.grown hg3 (by simp), ho3, ⟨rfl, .inl ⟨rfl, rfl⟩⟩, by have := HAs.out.lt.2; omega, fun b hb => (by cases hb), B2.grown hg3 B2.size (fun k hk => by cases hk)⟩
      obtain ⟨gu, hgu⟩ : ∃ gu, Hid (w2.heap.size = gu) := ⟨_, rfl⟩
      rw [hgu.out] at HH0 ⊢
      clear ho3 hg3 hi0 hz0 hz1 hz2 hgu
      go_wp2_with fail
      go_loopg [12, 42] N (fun k v12 v42 wr => ∃ (i : Nat) (G : Nat → Int), v42 = .int .i64 (i : Int) ∧ i + k = N ∧ Hid (HS w wr gs gu M f G v12 (spT l i) ∧ UInv l G ∧ ∀ i, 0 ≤ G i ∧ G i ≤ INF))
      case atStart => exact ⟨0, fun _ => 0, rfl, by omega, hd ⟨HH0.out, fun i h => absurd rfl h, fun _ => ⟨Int.le_refl 0, (by decide : (0 : Int) ≤ INF)⟩⟩⟩
      case round =>
        obtain ⟨i, G, rfl, hik, HH⟩ := hrel
        clear HH0
        by_cases hlt : i < N
        · have hlt' : (i : Int) < (N : Int) := by omega
          obtain ⟨b, off, rfl, hx⟩ := HP.out i (by rw [hN.out]; exact hlt)
          have hx := hx.kept HH.out.1.bel
          have Hx : Hid (InsAt (wr.alloc (.cells #[.int .i64 (l.getD i default).op, .int .i64 (l.getD i default).a, .int .i64 (l.getD i default).b, .int .i64 (l.getD i default).c, .int .i64 (l.getD i default).imm] 25)) wr.heap.size 0 (l.getD i default)) := hd (by
            have hh := heap_alloc_new wr (.cells #[.int .i64 (l.getD i default).op, .int .i64 (l.getD i default).a, .int .i64 (l.getD i default).b, .int .i64 (l.getD i default).c, .int .i64 (l.getD i default).imm] 25)
            exact ⟨by rw [cell_of_row _ _ _ _ _ _ hh]; rfl, by rw [cell_of_row _ _ _ _ _ _ hh]; rfl, by rw [cell_of_row _ _ _ _ _ _ hh]; rfl, by rw [cell_of_row _ _ _ _ _ _ hh]; rfl, by rw [cell_of_row _ _ _ _ _ _ hh]; rfl⟩)
          have HA : Hid (HS w (wr.alloc (.cells #[.int .i64 (l.getD i default).op, .int .i64 (l.getD i default).a, .int .i64 (l.getD i default).b, .int .i64 (l.getD i default).c, .int .i64 (l.getD i default).imm] 25)) gs gu M f G u12 (spT l i)) := hd (HH.out.1.after ((Below.refl _ _).alloc (Nat.le_refl _) _))
          have hh' : Hid (isH l i ↔ (l.getD i default).op = 29 ∧ f (256 * i) = true) := hd (by unfold isH; rw [HF.out])
          have HIm : Hid ((l.getD i default).op = 29 → ∃ k : Nat, k < 8 ∧ (l.getD i default).imm = k) := hd (fun h => HO.out.imm (by rw [hN.out]; exact hlt) (.inl h))
          have hst : Hid (isH l i → ∀ k : Nat, (l.getD i default).imm = k → Rch l (256 * (i + 1) + 2 ^ k) ∧ st1 l i = 256 * (i + 1) + 2 ^ k) := hd (fun h k hk => rch_st1 HW.out (by rw [hN.out]; exact hlt) h hk)
          obtain ⟨k0, k1, k2, k3, k4⟩ := hx
          generalize l.getD i default = X at *
          go_upto_region 12 with fail
          obtain ⟨wA, hwA⟩ : ∃ wA, Hid (wr.alloc (.cells #[.int .i64 X.op, .int .i64 X.a, .int .i64 X.b, .int .i64 X.c, .int .i64 X.imm] 25) = wA) := ⟨_, rfl⟩
          rw [hwA.out] at Hx HA ⊢
          obtain ⟨m0, m1, m2, m3, m4⟩ := Hx.out
          clear k0 k1 k2 k3 k4
          have hIA := index_any i 0 wA (by decide) (by omega)
          unfold stV at hIA
          rw [Nat.add_zero] at hIA
          have hcM : 256 * i < M := by have := hM.out; omega
          obtain ⟨cu, hcu⟩ : ∃ cu, Hid (256 * i = cu) := ⟨_, rfl⟩
          rw [hcu.out] at hIA hcM hh'
          have hcM' : (cu : Int) < (M : Int) := by omega
          by_cases h29 : X.op = 29
          · have d29 : (X.op != 29) = false := by simp [h29]
            by_cases hfc : f cu = true
            · have HH' : Hid (isH l i) := hd (hh'.out.mpr ⟨h29, hfc⟩)
              obtain ⟨q, hq8, hqi⟩ := HIm.out h29
              obtain ⟨hr1, hr2⟩ := hst.out HH'.out q hqi
              have Hr1 := hd hr1
              have Hr2 := hd hr2
              rw [hqi] at m4
              clear hr1 hr2 hqi h29 hst HIm hh'
              go_upto_region 13 with (go_at_call 20; refine hIA.mono ?_; rintro e4 w4 ⟨rfl, b4⟩; have HS4 := hd (HA.out.after b4); have cs := HS4.out.seen.cell cu hcM; rw [hfc] at cs)
              have n4 : w4.cell? ⟨wr.heap.size, 4, none⟩ = some (.int .i64 (q : Int)) := (b4.cell (World.block_lt_of_cell? wA _ m4)).trans m4
              have hpw := pow8 q hq8
              have hT8 : 2 ^ q < 256 := Nat.pow_lt_pow_right (by decide) hq8
              obtain ⟨T, hT⟩ : ∃ T : Nat, Hid (2 ^ q = T) := ⟨2 ^ q, hd rfl⟩
              rw [hT.out] at hpw Hr1 Hr2 hT8
              have HS5 : Hid (HS w (w4.alloc (.cells #[.int .i64 ((i : Int) + 1), .int .i64 (T : Int)] 53)) gs gu M f G u12 (spT l i)) := hd (HS4.out.after ((Below.refl _ _).alloc (Nat.le_refl _) _))
              have z0 : (w4.alloc (.cells #[.int .i64 ((i : Int) + 1), .int .i64 (T : Int)] 53)).cell? ⟨w4.heap.size, 0, none⟩ = some (.int .i64 ((i : Int) + 1)) := by rw [cell_of_row _ _ _ _ _ _ (heap_alloc_new w4 _)]; rfl
              have z1 : (w4.alloc (.cells #[.int .i64 ((i : Int) + 1), .int .i64 (T : Int)] 53)).cell? ⟨w4.heap.size, 1, none⟩ = some (.int .i64 (T : Int)) := by rw [cell_of_row _ _ _ _ _ _ (heap_alloc_new w4 _)]; rfl
              clear cs m0 m1 m2 m3 m4 b4 hIA
              go_upto_region 14 with fail
              obtain ⟨w5, hw5⟩ : ∃ w5, Hid (w4.alloc (.cells #[.int .i64 ((i : Int) + 1), .int .i64 (T : Int)] 53) = w5) := ⟨_, rfl⟩
              rw [hw5.out] at HS5 z0 z1 ⊢
              have hMC := hMe (i + 1) T gu M G w5 hM.out HS5.out.bel HW.out Hr1.out hT8 (by omega) HS5.out.units HH.out.2.1 HH.out.2.2
              unfold stV at hMC
              simp only [Int.natCast_add, Int.natCast_one] at hMC
              have hgu4 : gu < w4.heap.size := HS4.out.units.lt.2
              have hcM2 : 256 * (i + 1) + T < M := by have := hM.out; omega
              have hIx := fun (W : World) => index_any (i + 1) T W hT8 (by omega)
              obtain ⟨ct, hct⟩ : ∃ ct, Hid (256 * (i + 1) + T = ct) := ⟨_, rfl⟩
              rw [hct.out] at hcM2 hIx
              unfold stV at hIx
              simp only [Int.natCast_add, Int.natCast_one] at hIx
              clear n4 hpw HS4
              go_upto_region 15 with (go_at_call 21; refine hMC.mono ?_; rintro e6 w6 ⟨rfl, G', a6, u6, n6, g6, gr6⟩)
              have HS6 : Hid (HS w w6 gs gu M f G' u12 (spT l i)) := hd (HS5.out.measured a6 gr6)
              have x0 := gr6.cell z0 (by simp; omega)
              have x1 := gr6.cell z1 (by simp; omega)
              have HG6 : Hid (UInv l G' ∧ ∀ i, 0 ≤ G' i ∧ G' i ≤ INF) := hd ⟨u6, g6⟩
              have HV : Hid (G' (256 * (i + 1) + T) = un l (st1 l i)) := hd (by rw [Hr2.out]; exact u6 _ n6)
              have hIx6 := hIx w6
              rw [hct.out] at HV
              have hcM3 : (ct : Int) < (M : Int) := by omega
              obtain ⟨U, hU⟩ : ∃ U, Hid (un l (st1 l i) = U) := ⟨_, rfl⟩
              rw [hU.out] at HV
              clear hMC a6 u6 n6 g6 gr6 z0 z1 hIx
              have HSp : Hid (spT l (i + 1) = spT l i ++ [(i, U)]) := hd (by rw [spT_at HH'.out, hU.out])
              have hsl := spT_len l i
              obtain ⟨S, hS⟩ : ∃ S, Hid (spT l i = S) := ⟨_, rfl⟩
              rw [hS.out] at HS6 HSp hsl
              have hsl' : S.length ≤ 300 := by omega
              go_wp2_with (first
                | (go_at_call 20; refine hIx6.mono ?_; rintro e7 w7 ⟨rfl, b7⟩; have HS7 := hd (HS6.out.after b7); have cs := HS7.out.units.cell ct hcM2; unfold iF at cs; rw [HV.out] at cs
                   have HSA : Hid (HS w (w7.alloc (.cells #[.int .i64 (i : Int), .int .i64 U] 45)) gs gu M f G' u12 S) := hd (HS7.out.after ((Below.refl _ _).alloc (Nat.le_refl _) _))
                   have oA := HSA.out.spans
                   have lA := HSA.out.bel.size)
                | (at_builtin; refine wpList_append_lies _ rfl _ _ 41 rfl w.heap.size 45 i1 (.agg #[.int .i64 0, .int .i64 0]) 2 16 Tryd.underlying41 hi1 hy0 hy1 hy2 rfl (by decide) u12 _ _ rfl oA ⟨_, 0, none⟩ 1 1 (spC (i, U)) rfl rfl (new_cells _ (spC (i, U)) _) (spC_one _) (by decide) (by unfold maxLen; omega) (by omega) lA _ rfl ?_
                   intro g4 c4 w8 o4 gr4 li4 lt4
                   have HSB := hd (HSA.out.push rfl o4 gr4 li4)
                   clear o4 gr4 li4 lt4 oA))
              go_roundg (gk - 1)
              case measure => omega
              case rel => exact ⟨i + 1, G', by go_num, by omega, hd ⟨by rw [HSp.out]; exact HSB.out, HG6.out⟩⟩
            · have hff : f cu = false := by simpa using hfc
              have HSp : Hid (spT l (i + 1) = spT l i) := hd (spT_no (fun h => hfc (hh'.out.mp h).2))
              go_wp2_with (go_at_call 20; refine hIA.mono ?_; rintro e4 w4 ⟨rfl, b4⟩; have HS4 := hd (HA.out.after b4); have cs := HS4.out.seen.cell cu hcM; rw [hff] at cs)
              go_roundg (gk - 1)
              case measure => omega
              case rel => exact ⟨i + 1, G, by go_num, by omega, hd ⟨by rw [HSp.out]; exact HS4.out, HH.out.2⟩⟩
          · have d29 : (X.op != 29) = true := by simpa using h29
            have HSp : Hid (spT l (i + 1) = spT l i) := hd (spT_no (fun h => h29 (hh'.out.mp h).1))
            clear h29
            go_wp2_with fail
            go_roundg (gk - 1)
            case measure => omega
            case rel => exact ⟨i + 1, G, by go_num, by omega, hd ⟨by rw [HSp.out]; exact HA.out, HH.out.2⟩⟩
        · have hltd : decide ((i : Int) < (N : Int)) = false := by simp; omega
          have HE : Hid (Q (.returned (.tuple #[u12, .int .i64 0, .int .i64 0])) wr) := hd (by
            obtain rfl : i = N := by omega
            refine HFin.out u12 wr ?_ HH.out.1.bel
            unfold spL
            rw [hN.out]
            exact HH.out.1.spans)
          go_wp2_with fail
          go_ret3
          exact HE.out
  · have HF : Hid (∀ w', Below w.heap.size w w' → Q (.returned (.tuple #[.slice none 0 0, .int .i64 (mayL l k).1, .int .i64 (mayL l k).2])) w') := hd (fun w' hb => by
      rw [← hQ.out]
      refine .inl ?_
      rw [erL_may hm]
      exact ⟨hm, rfl, hb⟩)
    generalize mayL l k = R at *
    have d0 : (R.1 != 0) = true := by simpa using hm
    clear hP hF hm
    go_enter Tryd.func15, Tryd.ntmps15
    go_wp2_with (go_at_call 14; refine hMy.mono ?_; rintro e1 w1 ⟨rfl, b1⟩)
    go_ret3
    exact HF.out _ b1
end Go.Proofs.YtehapcoppghppaaDoor
