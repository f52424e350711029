/- Lists of lanes in memory of their own; State. -/
import Derived.Test.YthnjeejnnhadeaaGreatDoorGLc
import Derived.Test.YthnjeejnnhadeaaGreatDoorGPc
namespace Go.Proofs.YthnjeejnnhadeaaGreatDoor.Lane
open Go.RowKit
def tb (t : TLn) (k : Nat) : Prop := blk t.a1 = some k ∨ blk t.a2 = some k
structure TlAt (B : Nat) (w : World) (l : List TLn) : Prop where
 r1 : ∀ i, i < l.length → Row w 2 1 (tAt l i).a1 (tAt l i).vs.length (tAt l i).c1 (iC (tAt l i).vs)
 r2 : ∀ i, i < l.length → Row w 155 2 (tAt l i).a2 (tAt l i).ws.length (tAt l i).c2 (wC (tAt l i).ws)
 ne : ∀ i, i < l.length → ∀ k, blk (tAt l i).a2 = some k → blk (tAt l i).a1 ≠ some k
 ge : ∀ i, i < l.length → ∀ k, tb (tAt l i) k → B ≤ k
 ap : ∀ i j, i < l.length → j < l.length → i ≠ j → ∀ k, tb (tAt l i) k → ¬ tb (tAt l j) k
theorem tAt_app_lt {l : List TLn} {t : TLn} {i : Nat} (h : i < l.length) : tAt (l ++ [t]) i = tAt l i := by
 unfold tAt
 rw [List.getD_eq_getElem?_getD, List.getD_eq_getElem?_getD, List.getElem?_append_left h]
theorem tAt_app_eq {l : List TLn} {t : TLn} : tAt (l ++ [t]) l.length = t := by
 unfold tAt
 rw [List.getD_eq_getElem?_getD, List.getElem?_append_right (Nat.le_refl _)]
 simp
section
variable {B : Nat} {w w' : World} {l : List TLn}
theorem TlAt.nil (B : Nat) (w : World) : TlAt B w [] := ⟨fun i hi => by simp at hi, fun i hi => by simp at hi, fun i hi => by simp at hi, fun i hi => by simp at hi, fun i j hi => by simp at hi⟩
theorem TlAt.lt (h : TlAt B w l) (i : Nat) (hi : i < l.length) : ∀ k, tb (tAt l i) k → k < w.heap.size := fun k hk => by
 rcases hk with hk | hk
 ·exact (h.r1 i hi).lt k hk
 ·exact (h.r2 i hi).lt k hk
theorem TlAt.mod {S : Nat → Prop} (h : TlAt B w l) (hm : Mod S w w') (hn : ∀ i, i < l.length → ∀ k, tb (tAt l i) k → ¬ S k) : TlAt B w' l :=
 ⟨fun i hi => (h.r1 i hi).mod hm (fun k hk => hn i hi k (.inl hk)), fun i hi => (h.r2 i hi).mod hm (fun k hk => hn i hi k (.inr hk)), h.ne, h.ge, h.ap⟩
theorem TlAt.below (h : TlAt B w l) (hb : Below w.heap.size w w') : TlAt B w' l := h.mod (Mod.of_below (fun _ => False) hb) (fun _ _ _ _ h => h)
theorem TlAt.snoc (h : TlAt B w l) (hB : B ≤ w.heap.size) {vs : List Int} {ws : List (Int × Int)} {a1 a2 : Option Addr} {c1 c2 : Nat} (ho : OwnAL w w' vs ws a1 c1 a2 c2) (tk dr : Int) : TlAt B w' (l ++ [⟨vs, ws, tk, dr, a1, c1, a2, c2⟩]) := by
 have h' := h.below ho.bel
 refine ⟨fun i hi => ?_, fun i hi => ?_, fun i hi => ?_, fun i hi => ?_, fun i j hi hj hij k hk hk2 => ?_⟩
 ·rw [List.length_append] at hi
  simp only [List.length_singleton] at hi
  by_cases e : i = l.length
  ·subst e; rw [tAt_app_eq]; exact ho.vals
  ·rw [tAt_app_lt (by omega)]; exact h'.r1 i (by omega)
 ·rw [List.length_append] at hi
  simp only [List.length_singleton] at hi
  by_cases e : i = l.length
  ·subst e; rw [tAt_app_eq]; exact ho.wts
  ·rw [tAt_app_lt (by omega)]; exact h'.r2 i (by omega)
 ·rw [List.length_append] at hi
  simp only [List.length_singleton] at hi
  by_cases e : i = l.length
  ·subst e; rw [tAt_app_eq]; exact ho.ne
  ·rw [tAt_app_lt (by omega)]; exact h'.ne i (by omega)
 ·rw [List.length_append] at hi
  simp only [List.length_singleton] at hi
  intro k hk
  by_cases e : i = l.length
  ·subst e
   rw [tAt_app_eq] at hk
   rcases hk with hk | hk
   ·exact Nat.le_trans hB (ho.n1 k hk)
   ·exact Nat.le_trans hB (ho.n2 k hk)
  ·rw [tAt_app_lt (by omega)] at hk
   exact h'.ge i (by omega) k hk
 ·rw [List.length_append] at hi hj
  simp only [List.length_singleton] at hi hj
  have new : ∀ k, tb ⟨vs, ws, tk, dr, a1, c1, a2, c2⟩ k → w.heap.size ≤ k := fun k hk => by
   rcases hk with hk | hk
   ·exact ho.n1 k hk
   ·exact ho.n2 k hk
  by_cases e : i = l.length
  ·subst e
   rw [tAt_app_eq] at hk
   rw [tAt_app_lt (by omega)] at hk2
   have := new k hk
   have := h.lt j (by omega) k hk2
   omega
  ·rw [tAt_app_lt (by omega)] at hk
   by_cases e2 : j = l.length
   ·subst e2
    rw [tAt_app_eq] at hk2
    have := new k hk2
    have := h.lt i (by omega) k hk
    omega
   ·rw [tAt_app_lt (by omega)] at hk2
    exact h.ap i j (by omega) (by omega) hij k hk hk2
theorem TlAt.al (h : TlAt B w l) : ∀ t ∈ l, AL w t.vs t.ws t.a1 t.a2 := fun t ht => by
 obtain ⟨i, hi, rfl⟩ := tAt_of_mem ht
 exact ⟨(h.r1 i hi).rd, (h.r2 i hi).rd⟩
end
def Tells (l : List TLn) (ss : List LS) : Prop := l.length = ss.length ∧ ∀ i, i < ss.length → (tAt l i).vs = (lnOf ss i).vs ∧ (tAt l i).ws = (lnOf ss i).ws ∧ (tAt l i).tk = (lnOf ss i).tk ∧ (tAt l i).dr = (lnOf ss i).dr
theorem Tells.nil : Tells [] [] := ⟨rfl, fun i hi => by simp at hi⟩
theorem Tells.snoc {l : List TLn} {ss : List LS} (h : Tells l ss) {t : TLn} {s : LS} (h1 : t.vs = s.vs) (h2 : t.ws = s.ws) (h3 : t.tk = s.tk) (h4 : t.dr = s.dr) : Tells (l ++ [t]) (ss ++ [s]) := by
 refine ⟨by simp [h.1], fun i hi => ?_⟩
 rw [List.length_append] at hi
 simp only [List.length_singleton] at hi
 by_cases e : i = ss.length
 ·subst e
  rw [lnOf_app_eq, ← h.1, tAt_app_eq]
  exact ⟨h1, h2, h3, h4⟩
 ·rw [lnOf_app_lt (by omega), tAt_app_lt (by have := h.1; omega)]
  exact h.2 i (by omega)
structure TlOut (w w' : World) (a : Option Addr) (c : Nat) (l : List TLn) : Prop where
 row : Row w' 150 4 a l.length c (tlC l)
 at' : TlAt w.heap.size w' l
 ge : ∀ k, blk a = some k → w.heap.size ≤ k ∧ ∀ i, i < l.length → ¬ tb (tAt l i) k
 bel : Below w.heap.size w w'
theorem tlC_set : ∀ (l : List TLn) (t : TLn) (r : List TLn), ((((tlC (l ++ T0 :: r)).set (l.length * 4) (.slice t.a1 t.vs.length t.c1)).set (l.length * 4 + 1) (.slice t.a2 t.ws.length t.c2)).set (l.length * 4 + 2) (.int .i64 t.tk)).set (l.length * 4 + 3) (.int .i64 t.dr) = tlC (l ++ t :: r) := by
 intro l t r
 have hc : tlC (T0 :: r) = tlP T0 ++ tlC r := by simp [tlC]
 have hc2 : tlC (t :: r) = tlP t ++ tlC r := by simp [tlC]
 rw [tlC_app, tlC_app, hc, hc2]
 have hl := tlC_len l
 rw [List.set_append_right _ _ (by omega), List.set_append_right _ _ (by omega), List.set_append_right _ _ (by omega), List.set_append_right _ _ (by omega), hl]
 rw [show l.length * 4 - l.length * 4 = 0 by omega, show l.length * 4 + 1 - l.length * 4 = 1 by omega, show l.length * 4 + 2 - l.length * 4 = 2 by omega, show l.length * 4 + 3 - l.length * 4 = 3 by omega]
 rfl
structure Fill (w wr : World) (g n : Nat) (l : List TLn) (ss : List LS) : Prop where
 row : Row wr 150 4 (some ⟨g, 0, none⟩) n n (tlC (l ++ List.replicate (n - l.length) T0))
 at' : TlAt w.heap.size wr l
 ge : w.heap.size ≤ g
 nt : ∀ i, i < l.length → ¬ tb (tAt l i) g
 bel : Below w.heap.size w wr
 tel : Tells l ss
theorem Fill.put {w wr w1 : World} {g n : Nat} {l : List TLn} {ss : List LS} (h : Fill w wr g n l ss) (hn : l.length < n) {s : LS} {g1 g2 : Nat} (hT : Told wr w1 s g1 g2) :
  Fill w ((((w1.setCell ⟨g, l.length * 4, none⟩ (.slice (some ⟨g1, 0, none⟩) s.vs.length s.vs.length)).setCell ⟨g, l.length * 4 + 1, none⟩ (.slice (some ⟨g2, 0, none⟩) s.ws.length s.ws.length)).setCell ⟨g, l.length * 4 + 2, none⟩ (.int .i64 s.tk)).setCell ⟨g, l.length * 4 + 3, none⟩ (.int .i64 s.dr)) g n (l ++ [⟨s.vs, s.ws, s.tk, s.dr, some ⟨g1, 0, none⟩, s.vs.length, some ⟨g2, 0, none⟩, s.ws.length⟩]) (ss ++ [s]) := by
 have hgl : g < wr.heap.size := h.row.lt g rfl
 have hk' : ∀ k, k ≠ g → ((((w1.setCell ⟨g, l.length * 4, none⟩ (.slice (some ⟨g1, 0, none⟩) s.vs.length s.vs.length)).setCell ⟨g, l.length * 4 + 1, none⟩ (.slice (some ⟨g2, 0, none⟩) s.ws.length s.ws.length)).setCell ⟨g, l.length * 4 + 2, none⟩ (.int .i64 s.tk)).setCell ⟨g, l.length * 4 + 3, none⟩ (.int .i64 s.dr)).heap[k]? = w1.heap[k]? := fun k hk => by
  rw [Below.heap_setCell _ _ _ _ hk, Below.heap_setCell _ _ _ _ hk, Below.heap_setCell _ _ _ _ hk, Below.heap_setCell _ _ _ _ hk]
 have hsn := h.at'.snoc h.bel.size hT.own s.tk s.dr
 have hng : ∀ i, i < (l ++ [(⟨s.vs, s.ws, s.tk, s.dr, some ⟨g1, 0, none⟩, s.vs.length, some ⟨g2, 0, none⟩, s.ws.length⟩ : TLn)]).length → ¬ tb (tAt (l ++ [⟨s.vs, s.ws, s.tk, s.dr, some ⟨g1, 0, none⟩, s.vs.length, some ⟨g2, 0, none⟩, s.ws.length⟩]) i) g := fun i hi hk => by
  rw [List.length_append] at hi
  simp only [List.length_singleton] at hi
  by_cases e : i = l.length
  ·subst e
   rw [tAt_app_eq] at hk
   rcases hk with hk | hk
   ·have := hT.n1; have e : g1 = g := by simpa [blk] using hk
    omega
   ·have := hT.n2; have e : g2 = g := by simpa [blk] using hk
    omega
  ·rw [tAt_app_lt (by omega)] at hk
   exact h.nt i (by omega) hk
 refine ⟨?_, ?_, h.ge, hng, ?_, h.tel.snoc rfl rfl rfl rfl⟩
 ·have := ((((h.row.below hT.bel).put (l.length * 4) (.slice (some ⟨g1, 0, none⟩) s.vs.length s.vs.length)).put (l.length * 4 + 1) (.slice (some ⟨g2, 0, none⟩) s.ws.length s.ws.length)).put (l.length * 4 + 2) (.int .i64 s.tk)).put (l.length * 4 + 3) (.int .i64 s.dr)
  rw [show n - l.length = (n - (l.length + 1)) + 1 by omega, List.replicate_succ] at this
  have e := tlC_set l ⟨s.vs, s.ws, s.tk, s.dr, some ⟨g1, 0, none⟩, s.vs.length, some ⟨g2, 0, none⟩, s.ws.length⟩ (List.replicate (n - (l.length + 1)) T0)
  simp only at e
  rw [e] at this
  rw [List.length_append, List.append_assoc]
  exact this
 ·exact ⟨fun i hi => (hsn.r1 i hi).kept (fun k hk => hk' k (fun e => hng i hi (.inl (e ▸ hk)))), fun i hi => (hsn.r2 i hi).kept (fun k hk => hk' k (fun e => hng i hi (.inr (e ▸ hk)))), hsn.ne, hsn.ge, hsn.ap⟩
 ·have hge := h.ge
  refine (((((h.bel.trans (hT.bel.mono h.bel.size)).setCell (p := ⟨g, l.length * 4, none⟩) hge _).setCell (p := ⟨g, l.length * 4 + 1, none⟩) hge _).setCell (p := ⟨g, l.length * 4 + 2, none⟩) hge _).setCell (p := ⟨g, l.length * 4 + 3, none⟩) hge _)
section
variable {b : Nat} {F : Nat → Prop} {ss : List LS} {cur : Nat} {w : World}
set_option maxRecDepth 100000 in
set_option maxHeartbeats 2000000 in
theorem pstate_any (h : Ps w 188 249 185 b F ss cur) (hg : GoodP ss cur) (hfew : totW ss ≤ 7000000000000) :
    Calls Tryz.prog 99 #[.pointer (some ⟨b, 0, none⟩)] w fun e w' => ∃ a c l, e = .returned (.tuple #[.slice a ss.length c, .int .i64 (cur : Int)]) ∧ TlOut w w' a c l ∧ Tells l ss := by
  have hn := hg.n2
  obtain ⟨Q, hQ⟩ : ∃ Q : Ending → World → Prop, Hid ((fun e w' => ∃ a c l, e = .returned (.tuple #[.slice a ss.length c, .int .i64 (cur : Int)]) ∧ TlOut w w' a c l ∧ Tells l ss) = Q) := ⟨_, rfl⟩
  rw [hQ.out]
  obtain ⟨a, cap, bs, Fs, h, hF, -⟩ := h
  obtain ⟨n, hnn⟩ : ∃ n, Hid (ss.length = n) := ⟨_, rfl⟩
  have hmk := make_eq 70 150 _ 4 64 Tryz.underlying70 infoA n (by rw [hnn.out] at hn; omega) (by rw [hnn.out] at hn; unfold maxLen; omega) w
  have HP := hd h
  obtain ⟨k0, k1⟩ := h.cells
  have hb0 := below_al w (.cells (madeCells (Value.agg #[.slice none 0 0, .slice none 0 0, .int .i64 0, .int .i64 0]).cells (n * 4)) 150)
  obtain ⟨q0, q1⟩ := (h.below hb0).cells
  have HF0 : Hid (Fill w (w.alloc (.cells (madeCells (Value.agg #[.slice none 0 0, .slice none 0 0, .int .i64 0, .int .i64 0]).cells (n * 4)) 150)) w.heap.size n [] []) := hd
    ⟨by
      have := row_new (e := 150) (size := 4) (n := n) (heap_alloc_new w (.cells (madeCells (Value.agg #[.slice none 0 0, .slice none 0 0, .int .i64 0, .int .i64 0]).cells (n * 4)) 150)) (size_madeCells _ _) (by rw [hnn.out] at hn; unfold maxLen; omega)
      rw [made4] at this
      simpa using this, TlAt.nil _ _, Nat.le_refl _, fun i hi => by simp at hi, hb0, Tells.nil⟩
  obtain ⟨zs, hzs⟩ : ∃ zs, Hid (madeCells (Value.agg #[.slice none 0 0, .slice none 0 0, .int .i64 0, .int .i64 0]).cells (n * 4) = zs) := ⟨_, rfl⟩
  rw [hzs.out] at hmk HF0 q0 q1
  rw [hnn.out] at hn k0 q0
  obtain ⟨G, hG⟩ : ∃ G, Hid (w.heap.size = G) := ⟨_, rfl⟩
  have HCC : Hid (∀ W : World, Below w.heap.size w W → W.cell? ⟨b, 1, none⟩ = some (.int .i64 (cur : Int))) := hd (fun W hb => (HP.out.below hb).cells.2)
  clear h hF hb0
  go_enter Tryz.func99, Tryz.ntmps99
  go_wp2_with fail
  obtain ⟨w0, hw0⟩ : ∃ W, Hid (w.alloc (.cells zs 150) = W) := ⟨_, rfl⟩
  rw [hw0.out] at HF0 ⊢
  rw [hG.out] at HF0 ⊢
  clear hw0 hmk
  go_loopg [5, 6, 18] n (fun k v5 v6 v18 wr => ∃ i : Nat, v18 = .int .i64 (i : Int) ∧ i + k = n ∧ Hid (∃ l, l.length = i ∧ Fill w wr G n l (ss.take i)))
  case atStart => exact ⟨0, rfl, by omega, hd ⟨[], rfl, by simpa using HF0.out⟩⟩
  case round =>
    obtain ⟨i, rfl, hik, HH⟩ := hrel
    obtain ⟨l, hli, hfi⟩ := HH.out
    have HB := hd hfi.bel
    by_cases hlt : i < n
    · have hlt' : (i : Int) < (n : Int) := by omega
      have hil : i < ss.length := by rw [hnn.out]; exact hlt
      obtain ⟨g, rfl, c0⟩ := (HP.out.below hfi.bel).ptr i hil
      have hst := state_any ((HP.out.below hfi.bel).lns i hil) (by have := (hg.at hil).len; have := (hg.at hil).r2; omega) (by have := tot_mem (lnOf_mem hil); omega)
      have HN : Hid (∀ w1 g1 g2, Told wr w1 (lnOf ss i) g1 g2 → (∃ l, l.length = i + 1 ∧ Fill w ((((w1.setCell ⟨G, i * 4, none⟩ (.slice (some ⟨g1, 0, none⟩) (lnOf ss i).vs.length (lnOf ss i).vs.length)).setCell ⟨G, i * 4 + 1, none⟩ (.slice (some ⟨g2, 0, none⟩) (lnOf ss i).ws.length (lnOf ss i).ws.length)).setCell ⟨G, i * 4 + 2, none⟩ (.int .i64 (lnOf ss i).tk)).setCell ⟨G, i * 4 + 3, none⟩ (.int .i64 (lnOf ss i).dr)) G n l (ss.take (i + 1)))
          ∧ (∃ u0 u1 u2 u3, w1.cell? ⟨G, i * 4, none⟩ = some u0 ∧ w1.cell? ⟨G, i * 4 + 1, none⟩ = some u1 ∧ w1.cell? ⟨G, i * 4 + 2, none⟩ = some u2 ∧ w1.cell? ⟨G, i * 4 + 3, none⟩ = some u3) ∧ ∀ j, w1.frozen? ⟨G, j, none⟩ = false) := hd (fun w1 g1 g2 hT => by
        have h1 := hfi.put (by omega) hT
        rw [← take_snocL hil, hli] at h1
        refine ⟨⟨_, by simp [hli], h1⟩, ?_, fun j => (hfi.row.below hT.bel).free j G rfl⟩
        have hr := hfi.row.below hT.bel
        have hc : ∀ j, j < n * 4 → ∃ u, w1.cell? ⟨G, j, none⟩ = some u := fun j hj => by
          obtain ⟨g', e, hc⟩ := hr.cell j hj
          cases e
          have hln := hr.len
          exact ⟨_, hc.trans (List.getElem?_eq_getElem (by omega))⟩
        obtain ⟨u0, c0⟩ := hc (i * 4) (by omega)
        obtain ⟨u1, c1⟩ := hc (i * 4 + 1) (by omega)
        obtain ⟨u2, c2⟩ := hc (i * 4 + 2) (by omega)
        obtain ⟨u3, c3⟩ := hc (i * 4 + 3) (by omega)
        exact ⟨u0, u1, u2, u3, c0, c1, c2, c3⟩)
      obtain ⟨s, hs⟩ : ∃ s, Hid (lnOf ss i = s) := ⟨_, rfl⟩
      obtain ⟨pb, hpb⟩ : ∃ p, Hid (bs.getD i 0 = p) := ⟨_, rfl⟩
      rw [hs.out] at hst HN
      rw [hpb.out] at hst c0
      unfold alV at hst
      obtain ⟨vn, hvn⟩ : ∃ vn, Hid (s.vs.length = vn) := ⟨_, rfl⟩
      obtain ⟨wn, hwn⟩ : ∃ wn, Hid (s.ws.length = wn) := ⟨_, rfl⟩
      rw [hvn.out, hwn.out] at hst HN
      clear hfi hil hli
      go_wp2_with (first | (go_at_call 160; refine hst.mono ?_; rintro e2 w2 ⟨g1, g2, rfl, hT⟩
                            obtain ⟨hnx, ⟨u0, u1, u2, u3, z0, z1, z2, z3⟩, zf⟩ := HN.out _ _ _ hT
                            have HNX := hd hnx
                            clear hnx hT))
      go_roundg (gk - 1)
      case measure => omega
      case rel => exact ⟨i + 1, by go_num, by omega, HNX⟩
    · have hltd : decide ((i : Int) < (n : Int)) = false := by simp; omega
      have hle : (n : Int) ≤ (i : Int) := by omega
      have c1 := HCC.out wr hfi.bel
      have HFI := hd hfi
      have HLI := hd hli
      clear hfi hli
      go_wp2_with fail
      go_quiet (fail)
      go_wp2_with fail
      rw [← hQ.out, hnn.out]
      have hin : i = n := by omega
      have h1 := HFI.out
      have h2 := HLI.out
      rw [List.take_of_length_le (by have := hnn.out; omega)] at h1
      refine ⟨some ⟨G, 0, none⟩, n, l, rfl, ?_, h1.tel⟩
      have hr := h1.row
      rw [h2, hin, Nat.sub_self] at hr
      simp only [List.replicate_zero, List.append_nil] at hr
      have hbl : Below wr.heap.size wr (wr.drewN nq) := below_drewN (below_same wr) nq
      exact ⟨by rw [h2, hin]; exact hr.below hbl, h1.at'.below hbl, fun k hk => by cases hk; exact ⟨h1.ge, h1.nt⟩, h1.bel.trans (hbl.mono h1.bel.size)⟩
end
end Go.Proofs.YthnjeejnnhadeaaGreatDoor.Lane
