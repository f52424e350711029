/- An instruction as the reader takes it. -/
import Derived.Test.YthhcecllejddeaaGreatDoorGCc
import Derived.Test.YthhcecllejddeaaGreatDoorGQw
namespace Go.Proofs.YthhcecllejddeaaGreatDoor
open Go.RowKit
def ins4 (bs : List Nat) (s : St) : Nat → St
 | 0 => s
 | m + 1 => (numS bs 1 (ins4 bs s m)).2
def rawI (bs : List Nat) (s : St) : Ins := ⟨((numS bs 1 (ins4 bs s 0)).1 : Nat), ((numS bs 1 (ins4 bs s 1)).1 : Nat), ((numS bs 1 (ins4 bs s 2)).1 : Nat), ((numS bs 1 (ins4 bs s 3)).1 : Nat), wrap64 ((numS bs 8 (ins4 bs s 4)).1 : Nat)⟩
def rawS (bs : List Nat) (s : St) : St := (numS bs 8 (ins4 bs s 4)).2
def cutB (bs : List Nat) (p q : Nat) : List Nat := (bs.drop p).take (q - p)
def plI (bs : List Nat) (s : St) (E : Int) : Int := if E = 13 then 4 else (decR (cutB bs s.nx (rawS bs s).nx)).2
def insS (bs : List Nat) (n k : Int) (s : St) : St := failS (rawS bs s) (wrong (rawI bs s) n k).1 (s.nx + plI bs s (wrong (rawI bs s) n k).1)
theorem numS_good {bs : List Nat} {k : Nat} {s : St} (h : s.e = 0) (hl : s.nx + k ≤ bs.length) : numS bs k s = (sumB bs s.nx k, { s with fr := s.nx, nx := s.nx + k }) := by
 unfold numS
 rw [if_neg (by simp [h]), if_neg (by omega)]
theorem numS_short {bs : List Nat} {k : Nat} {s : St} (h : s.e = 0) (hl : bs.length < s.nx + k) : numS bs k s = (0, { s with e := 5, at_ := bs.length }) := by
 unfold numS
 rw [if_neg (by simp [h]), if_pos hl]
theorem sumB_one (bs : List Nat) (p : Nat) : sumB bs p 1 = bs.getD p 0 := by simp [sumB]
theorem ins4_good {bs : List Nat} {s : St} (h : s.e = 0) : ∀ m, s.nx + m ≤ bs.length → (ins4 bs s m).e = 0 ∧ (ins4 bs s m).nx = s.nx + m ∧ (ins4 bs s m).at_ = s.at_
 | 0, _ => ⟨h, rfl, rfl⟩
 | m + 1, hl => by
  obtain ⟨h1, h2, h3⟩ := ins4_good (bs := bs) h m (by omega)
  rw [ins4, numS_good h1 (by omega)]
  exact ⟨h1, by simp only; omega, h3⟩
theorem ins4_short {bs : List Nat} {s : St} (h : s.e = 0) (hs : s.nx ≤ bs.length) : ∀ m, bs.length < s.nx + m → (ins4 bs s m).e = 5 ∧ (ins4 bs s m).at_ = bs.length ∧ (ins4 bs s m).nx = bs.length
 | 0, hl => by omega
 | m + 1, hl => by
  by_cases h1 : bs.length < s.nx + m
  ·obtain ⟨k1, k2, k3⟩ := ins4_short h hs m h1
   rw [ins4, numS_bad (by rw [k1]; decide)]
   exact ⟨k1, k2, k3⟩
  ·obtain ⟨k1, k2, k3⟩ := ins4_good (bs := bs) h m (by omega)
   rw [ins4, numS_short k1 (by omega)]
   exact ⟨rfl, rfl, by simp only; omega⟩
theorem raw_full {bs : List Nat} {s : St} (h : s.e = 0) (hl : s.nx + 12 ≤ bs.length) : rawI bs s = getI bs s.nx ∧ (rawS bs s).e = 0 ∧ (rawS bs s).at_ = s.at_ ∧ (rawS bs s).nx = s.nx + 12 := by
 have g0 := ins4_good (bs := bs) h 0 (by omega)
 have g1 := ins4_good (bs := bs) h 1 (by omega)
 have g2 := ins4_good (bs := bs) h 2 (by omega)
 have g3 := ins4_good (bs := bs) h 3 (by omega)
 have g4 := ins4_good (bs := bs) h 4 (by omega)
 unfold rawI rawS getI
 rw [numS_good g0.1 (by omega), numS_good g1.1 (by omega), numS_good g2.1 (by omega), numS_good g3.1 (by omega), numS_good g4.1 (by omega)]
 simp only
 rw [g0.2.1, g1.2.1, g2.2.1, g3.2.1, g4.2.1, sumB_one, sumB_one, sumB_one, sumB_one]
 exact ⟨rfl, g4.1, g4.2.2, by omega⟩
theorem raw_short {bs : List Nat} {s : St} (h : s.e = 0) (hs : s.nx ≤ bs.length) (hl : bs.length < s.nx + 12) : (rawS bs s).e = 5 ∧ (rawS bs s).at_ = bs.length := by
 unfold rawS
 by_cases h1 : bs.length < s.nx + 4
 ·obtain ⟨k1, k2, k3⟩ := ins4_short h hs 4 h1
  rw [numS_bad (by rw [k1]; decide)]
  exact ⟨k1, k2⟩
 ·obtain ⟨k1, k2, k3⟩ := ins4_good (bs := bs) h 4 (by omega)
  rw [numS_short k1 (by omega)]
  exact ⟨rfl, rfl⟩
theorem numS_nx {bs : List Nat} {k : Nat} {s : St} (h : s.nx ≤ bs.length) : s.nx ≤ (numS bs k s).2.nx ∧ (numS bs k s).2.nx ≤ bs.length ∧ (numS bs k s).2.nx ≤ s.nx + k := by
 unfold numS
 split
 ·exact ⟨Nat.le_refl _, h, by simp only; omega⟩
 ·split
  ·exact ⟨Nat.le_refl _, h, by simp only; omega⟩
  ·simp only
   omega
theorem ins4_nx {bs : List Nat} {s : St} (h : s.nx ≤ bs.length) : ∀ m, s.nx ≤ (ins4 bs s m).nx ∧ (ins4 bs s m).nx ≤ bs.length ∧ (ins4 bs s m).nx ≤ s.nx + m
 | 0 => ⟨Nat.le_refl _, h, Nat.le_refl _⟩
 | m + 1 => by
  have ih := ins4_nx h m
  have := numS_nx (bs := bs) (k := 1) ih.2.1
  rw [ins4]
  omega
theorem raw_nx {bs : List Nat} {s : St} (h : s.nx ≤ bs.length) : s.nx ≤ (rawS bs s).nx ∧ (rawS bs s).nx ≤ bs.length ∧ (rawS bs s).nx ≤ s.nx + 12 := by
 have ih := ins4_nx h 4
 have := numS_nx (bs := bs) (k := 8) ih.2.1
 unfold rawS
 omega
theorem cut_len {bs : List Nat} {p q : Nat} (h : p ≤ q) (hq : q ≤ bs.length) : (cutB bs p q).length = q - p := by
 unfold cutB
 rw [List.length_take, List.length_drop]
 omega
theorem cut_at {bs : List Nat} {p q i : Nat} (h : i < q - p) : (cutB bs p q).getD i 0 = bs.getD (p + i) 0 := by
 unfold cutB
 rw [List.getD_eq_getElem?_getD, List.getElem?_take, if_pos h, List.getElem?_drop, ← List.getD_eq_getElem?_getD]
theorem get_cut {bs : List Nat} {p : Nat} : getI (cutB bs p (p + 12)) 0 = getI bs p := by
 have e1 : ∀ i, i < 12 → (cutB bs p (p + 12)).getD i 0 = bs.getD (p + i) 0 := fun i hi => cut_at (by omega)
 have e2 : ∀ m, m ≤ 8 → sumB (cutB bs p (p + 12)) (0 + 4) m = sumB bs (p + 4) m := fun m => by
  induction m with
  | zero => intro _; rfl
  | succ m ih =>
   intro hm
   rw [sumB, sumB, ih (by omega), show 0 + 4 + m = 4 + m by omega, e1 (4 + m) (by omega), show p + (4 + m) = p + 4 + m by omega]
 unfold getI
 rw [e2 8 (by omega), e1 0 (by omega), e1 (0 + 1) (by omega), e1 (0 + 2) (by omega), e1 (0 + 3) (by omega)]
 simp
theorem regE_13 (y : Int) (b : Bool) : regE y b ≠ 13 := by
 unfold regE
 split <;> split <;> decide
theorem immE_less {o i n k : Int} (hn : 1 ≤ n) (hi : immE o i n k ≠ 0) (h13 : immE o i n k ≠ 13) : immE o i 1 8 ≠ 0 := by
 unfold immE at hi h13 ⊢
 by_cases hI : hI o = true
 ·rw [if_pos hI] at hi h13 ⊢
  by_cases h22 : o = 22 ∨ o = 23
  ·rw [if_pos h22] at hi ⊢
   by_cases hj : 0 ≤ i ∧ i ≤ n
   ·rw [if_pos hj] at hi
    exact absurd rfl hi
   ·rw [if_neg (by omega)]
    decide
  ·rw [if_neg h22] at hi h13 ⊢
   by_cases h29 : o = 29 ∨ o = 30
   ·rw [if_pos h29] at hi h13
    by_cases hj : 0 ≤ i ∧ i < k
    ·rw [if_pos hj] at hi
     exact absurd rfl hi
    ·rw [if_neg hj] at h13
     exact absurd rfl h13
   ·rw [if_neg h29] at hi
    exact absurd rfl hi
 ·rw [if_neg hI] at hi ⊢
  exact hi
theorem wrong_where (x : Ins) (n k : Int) (hn : 1 ≤ n) (h : (wrong x n k).1 ≠ 0) : (wrong x n k).2 = if (wrong x n k).1 = 13 then 4 else (wrong x 1 8).2 := by
 by_cases h0 : 0 ≤ x.op ∧ x.op < 34
 ·by_cases ha : regE x.a (hA x.op) = 0
  ·by_cases hb : regE x.b (hB x.op) = 0
   ·by_cases hc : regE x.c (hC x.op) = 0
    ·by_cases hi : immE x.op x.imm n k = 0
     ·rw [wrong_no h0 ha hb hc hi] at h
      exact absurd rfl h
     ·rw [wrong_i h0 ha hb hc hi]
      by_cases h13 : immE x.op x.imm n k = 13
      ·rw [if_pos h13]
      ·rw [if_neg h13, wrong_i h0 ha hb hc (immE_less hn hi h13)]
    ·rw [wrong_c h0 ha hb hc, wrong_c h0 ha hb hc, if_neg (regE_13 _ _)]
   ·rw [wrong_b h0 ha hb, wrong_b h0 ha hb, if_neg (regE_13 _ _)]
  ·rw [wrong_a h0 ha, wrong_a h0 ha, if_neg (regE_13 _ _)]
 ·rw [wrong_op h0, wrong_op h0]
  rfl
theorem wrong_none (x : Ins) (n k : Int) (h : (wrong x n k).1 = 0) : (wrong x n k).2 = 0 := by
 obtain ⟨h1, h2, h3, h4, h5, h6⟩ := wrong_ok h
 unfold wrong
 rw [if_neg (by omega), if_neg (by simp [h3]), if_neg (by simp [h4]), if_neg (by simp [h5]), if_neg (by simp [h6])]
theorem decR_one {bs : List Nat} (h : bs.length = 12) : (decR bs).2 = (wrong (getI bs 0) 1 8).2 := by
 unfold decR
 rw [if_neg (by omega), if_neg (by omega), h]
 show (decE bs 1 0 1).2 = _
 simp only [decE, Nat.mul_zero]
 by_cases hw : (wrong (getI bs 0) 1 8).1 = 0
 ·rw [if_neg (by simp [hw]), wrong_none _ _ _ hw]
 ·rw [if_pos (by simpa using hw)]
  simp
theorem Stage.ins {α : Type} {whole : Res α} {s : St} {bs : List Nat} {n k : Int} {g : Ins → Par α} (hn : 1 ≤ n) (h : Stage whole s (bind_ (insP n k) g bs s.nx)) (h0 : s.e = 0) (hs : s.nx ≤ bs.length) :
  Stage whole (insS bs n k s) (g (rawI bs s) bs (insS bs n k s).nx) := by
 obtain ⟨h1, h2⟩ := h.good h0
 unfold bind_ insP at h1
 unfold insS
 by_cases hl : bs.length < s.nx + 12
 ·rw [if_pos hl] at h1
  obtain ⟨k1, k2⟩ := raw_short h0 hs hl
  rw [failS_bad (by rw [k1]; decide)]
  right
  rw [k1, k2]
  exact ⟨by decide, h1⟩
 ·rw [if_neg hl] at h1
  obtain ⟨k1, k2, k3, k4⟩ := raw_full h0 (bs := bs) (by omega)
  rw [k1]
  by_cases hw : (wrong (getI bs s.nx) n k).1 = 0
  ·rw [if_neg (by simp [hw])] at h1
   rw [hw, failS_ok]
   left
   exact ⟨k2, by rw [k3, h2], by rw [k4]; exact h1⟩
  ·rw [if_pos (by simpa using hw)] at h1
   rw [failS_set k2 hw]
   right
   refine ⟨hw, ?_⟩
   rw [h1]
   simp only
   have : plI bs s (wrong (getI bs s.nx) n k).1 = (wrong (getI bs s.nx) n k).2 := by
    unfold plI
    rw [k4, decR_one (by rw [cut_len (by omega) (by omega)]; omega), get_cut, wrong_where _ n k hn hw]
   rw [this]
end Go.Proofs.YthhcecllejddeaaGreatDoor

namespace Go.Proofs.YthhcecllejddeaaGreatDoor
open Go.RowKit
theorem Byt.of_rd {w : World} {a : Option Addr} {bs : List Nat} (h : Rd w a (bCells bs)) : Byt w a bs := fun i hi => h i _ (by simp [bCells, List.getD_eq_getElem?_getD, List.getElem?_eq_getElem hi])
set_option maxRecDepth 100000 in
theorem place_13 (a : Option Addr) (n cap : Nat) (w : World) :
  Calls Tryz.prog 128 #[.slice a n cap, .int .i64 13] w fun e w' => e = .returned (.int .i64 4) ∧ Below w.heap.size w w' := by
 have B0 := hd (below_same w)
 go_enter Tryz.func128, Tryz.ntmps128
 go_wp2
 go_ret
 exact ⟨rfl, B0.out⟩
set_option maxRecDepth 100000 in
theorem place_dec (a : Option Addr) (cap : Nat) (bs : List Nat) (E : Int) (hE : E ≠ 13) (w : World) (hB : Byt w a bs) (hF : Fld w) (hb : Byte bs) (hcap : bs.length ≤ cap) :
  Calls Tryz.prog 128 #[.slice a bs.length cap, .int .i64 E] w fun e w' => e = .returned (.int .i64 (decR bs).2) ∧ Below w.heap.size w w' := by
 have d1 : (E == 13) = false := by simpa using hE
 have hdc : Calls Tryz.prog 173 #[.slice a bs.length cap] w fun e w' => ∃ v x, e = .returned (.tuple #[v, .int .i64 x, .int .i64 (decR bs).2]) ∧ Below w.heap.size w w' :=
  (decode_any a cap bs w hB hF hb hcap).mono fun e w' hp => by
   rcases hp with ⟨hr, g, cap', he, _, hbw⟩ | ⟨hr, he, hbw⟩
   ·have : (decR bs).2 = 0 := (decR_place bs).2.2 hr
    exact ⟨_, _, by rw [he, this], hbw⟩
   ·exact ⟨_, _, he, hbw⟩
 clear hB hF hb hE
 generalize (decR bs).2 = D at *
 go_enter Tryz.func128, Tryz.ntmps128
 go_wp2_with (go_at_call 173; refine hdc.mono ?_; rintro e w1 ⟨v, x, rfl, hbw⟩)
 go_ret
 exact ⟨rfl, hbw⟩
theorem place_any (a : Option Addr) (cap : Nat) (bs : List Nat) (E : Int) (w : World) (hB : Byt w a bs) (hF : Fld w) (hb : Byte bs) (hcap : bs.length ≤ cap) :
  Calls Tryz.prog 128 #[.slice a bs.length cap, .int .i64 E] w fun e w' => e = .returned (.int .i64 (if E = 13 then 4 else (decR bs).2)) ∧ Below w.heap.size w w' := by
 by_cases h : E = 13
 ·subst h
  rw [if_pos rfl]
  exact place_13 a _ cap w
 ·rw [if_neg h]
  exact place_dec a cap bs E h w hB hF hb hcap
theorem Fld.mod {w w' : World} {S : Nat → Prop} (h : Fld w) (hm : Mod S w w') (hs : ¬ S 1) : Fld w' := fun i hi => by
 have hc := h i hi
 rw [hm.cell (p := ⟨1, i, none⟩) (World.block_lt_of_cell? w _ hc) hs]
 exact hc
end Go.Proofs.YthhcecllejddeaaGreatDoor

namespace Go.Proofs.YthhcecllejddeaaGreatDoor
open Go.RowKit
section
variable {w : World} {r : Nat} {a : Option Addr} {cap : Nat} {bs : List Nat} {s : St}
theorem Rd.cut {w : World} {a : Option Addr} {bs : List Nat} {p q : Nat} (h : Rd w a (bCells bs)) (hp : p ≤ q) (hq : q ≤ bs.length) (hpq : p < q) : ∃ b o, a = some ⟨b, o, none⟩ ∧ Rd w (some ⟨b, o + p, none⟩) (bCells (cutB bs p q)) := by
 obtain ⟨b, o, rfl, _⟩ := h p (.int .u8 ((bs.getD p 0 : Nat) : Int)) (by simp [bCells, List.getD_eq_getElem?_getD, List.getElem?_eq_getElem (show p < bs.length by omega)])
 refine ⟨b, o, rfl, fun j u hj => ⟨b, o + p, rfl, ?_⟩⟩
 have hl : j < q - p := by
  rcases Nat.lt_or_ge j (q - p) with h | h
  ·exact h
  ·rw [List.getElem?_eq_none (by rw [bCells_len, cut_len hp hq]; exact h)] at hj; cases hj
 obtain ⟨b', o', e, hc⟩ := h (p + j) u (by
  rw [← hj]
  unfold bCells cutB
  rw [List.getElem?_map, List.getElem?_map, List.getElem?_take, if_pos hl, List.getElem?_drop])
 cases e
 rw [Nat.add_assoc]
 exact hc
theorem ROut.put {W : World} {s1 : St} (h : ROut w r a cap bs s1 W) (h0 : RdAt w r a cap bs s) {G : Nat} (hG : w.heap.size ≤ G) (i : Nat) (v : Value) : ROut w r a cap bs s1 (W.setCell ⟨G, i, none⟩ v) := by
 have hr := h0.lt
 have hm : Mod (fun k => k = G) W (W.setCell ⟨G, i, none⟩ v) := (Mod.refl (fun k => k = G) W).setCell (.inl rfl) v
 refine ⟨⟨?_, Rd.apart h0.rd h.1.rd hm (fun k hk => by omega) rfl, h.1.ne, h.1.byte, h.1.le, h.1.room, h.1.nx, h.1.fr⟩, h.2.setCell (.inr hG) v⟩
 rw [hm.block r h.1.lt (by omega)]
 exact h.1.obj
theorem five_cells {W : World} {G : Nat} {x0 x1 x2 x3 x4 v0 v1 v2 v3 v4 : Value} {T : TypeId} (h : W.heap[G]? = some (.cells #[x0, x1, x2, x3, x4] T (0, 0))) :
  (((((W.setCell ⟨G, 0, none⟩ v0).setCell ⟨G, 1, none⟩ v1).setCell ⟨G, 2, none⟩ v2).setCell ⟨G, 3, none⟩ v3).setCell ⟨G, 4, none⟩ v4).heap[G]? = some (.cells #[v0, v1, v2, v3, v4] T (0, 0)) :=
 heap_setCell_same _ G 4 _ _ v4 (heap_setCell_same _ G 3 _ _ v3 (heap_setCell_same _ G 2 _ _ v2 (heap_setCell_same _ G 1 _ _ v1 (heap_setCell_same _ G 0 _ _ v0 h))))
def cutA (a : Option Addr) (cap p : Nat) : Option Addr := match a with
 | some ad => if cap = p then some ad else some (ad.add p)
 | none => none
set_option maxRecDepth 100000 in
set_option maxHeartbeats 4000000 in
theorem ins_any (h : RdAt w r a cap bs s) (hF : Fld w) (hr : 2 ≤ r) (n k : Int) :
  Calls Tryz.prog 100 #[.pointer (some ⟨r, 0, none⟩), .int .i64 n, .int .i64 k] w fun e w' => e = .returned (insV (rawI bs s)) ∧ ROut w r a cap bs (insS bs n k s) w' := by
 have H := hd h
 have HF := hd hF
 have hnx0 := h.nx
 obtain ⟨X, hX⟩ : ∃ X, Hid (rawI bs s = X) := ⟨_, rfl⟩
 obtain ⟨sI, hsI⟩ : ∃ X, Hid (insS bs n k s = X) := ⟨_, rfl⟩
 rw [hX.out, hsI.out]
 clear h hF
 go_enter Tryz.func100, Tryz.ntmps100
 go_upto_region 1 with fail
 obtain ⟨w0, hw0⟩ : ∃ W, Hid (w.alloc (.cells #[.int .i64 0, .int .i64 0, .int .i64 0, .int .i64 0, .int .i64 0] 54) = W) := ⟨_, rfl⟩
 rw [hw0.out]
 have hb0 : Below w.heap.size w w0 := by rw [← hw0.out]; exact below_al w _
 have h0 := H.out.below hb0
 have HF0 : Hid (Fld w0) := hd (HF.out.kept hb0)
 have HB0 : Hid (w0.heap[w.heap.size]? = some (.cells #[.int .i64 0, .int .i64 0, .int .i64 0, .int .i64 0, .int .i64 0] 54 (0, 0))) := hd (by rw [← hw0.out]; exact heap_alloc_new w _)
 obtain ⟨G, hG⟩ : ∃ G, Hid (w.heap.size = G) := ⟨_, rfl⟩
 rw [hG.out] at HB0 ⊢
 have hrG : r < G := by rw [← hG.out]; exact H.out.lt
 have k2 := h0.cells.2.2.1
 have O0 : Hid (ROut w r a cap bs s w0) := hd ⟨h0, Mod.of_below _ hb0⟩
 clear hb0 hw0
 replace h0 := hd h0
 go_upto_region 2 with fail
 clear k2
 clear h0
 have c1 := small_any O0.out.1 1 ⟨by omega, by omega⟩
 have c8 := rnum_any O0.out.1 8 ⟨by omega, by omega⟩
 have HX : Hid (rawI bs s = ⟨((numS bs 1 s).1 : Nat), ((numS bs 1 (numS bs 1 s).2).1 : Nat), ((numS bs 1 (numS bs 1 (numS bs 1 s).2).2).1 : Nat), ((numS bs 1 (numS bs 1 (numS bs 1 (numS bs 1 s).2).2).2).1 : Nat), wrap64 ((numS bs 8 (numS bs 1 (numS bs 1 (numS bs 1 (numS bs 1 s).2).2).2).2).1 : Nat)⟩) := hd rfl
 have HY : Hid (rawS bs s = (numS bs 8 (numS bs 1 (numS bs 1 (numS bs 1 (numS bs 1 s).2).2).2).2).2) := hd rfl
 have HM : Hid (Mod (fun k => k = r) w0 w0) := hd (Mod.refl _ _)
 go_upto_region 3 with (first | (go_at_call 97; refine c1.mono ?_; rintro e w1 ⟨rfl, o1⟩; replace HM := hd (HM.out.trans o1.2 (fun _ h => .inl h)); replace O0 := hd (O0.out.trans o1); clear o1 c1 c8; have c1 := small_any O0.out.1 1 ⟨by omega, by omega⟩; have c8 := rnum_any O0.out.1 8 ⟨by omega, by omega⟩) | (go_at_call 99; refine c8.mono ?_; rintro e w2 ⟨rfl, o1⟩; replace HM := hd (HM.out.trans o1.2 (fun _ h => .inl h)); replace O0 := hd (O0.out.trans o1); clear o1 c1 c8))
 have hnx := raw_nx (bs := bs) (s := s) (by exact hnx0)
 rw [HY.out] at hnx
 have HI : Hid (insS bs n k s = failS (rawS bs s) (wrong (rawI bs s) n k).1 (s.nx + plI bs s (wrong (rawI bs s) n k).1)) := hd rfl
 have HPL : Hid (∀ E, plI bs s E = if E = 13 then 4 else (decR (cutB bs s.nx (rawS bs s).nx)).2) := hd fun _ => rfl
 rw [HX.out, HY.out] at HI
 rw [HY.out] at HPL
 rw [HX.out] at hX
 rw [hsI.out] at HI
 clear HX HY hsI
 generalize plI bs s = PL at *
 generalize (numS bs 8 (numS bs 1 (numS bs 1 (numS bs 1 (numS bs 1 s).2).2).2).2).1 = v5 at *
 generalize (numS bs 8 (numS bs 1 (numS bs 1 (numS bs 1 (numS bs 1 s).2).2).2).2).2 = s5 at *
 generalize (numS bs 1 (numS bs 1 (numS bs 1 (numS bs 1 s).2).2).2).1 = v4 at *
 generalize (numS bs 1 (numS bs 1 (numS bs 1 s).2).2).1 = v3 at *
 generalize (numS bs 1 (numS bs 1 s).2).1 = v2 at *
 generalize (numS bs 1 s).1 = v1 at *
 generalize wrap64 (v5 : Int) = im at *
 obtain ⟨w3, hw3⟩ : ∃ W, Hid (w2.alloc (.cells #[.int .i64 (v1 : Int), .int .i64 (v2 : Int), .int .i64 (v3 : Int), .int .i64 (v4 : Int), .int .i64 im] 54) = W) := ⟨_, rfl⟩
 rw [hw3.out]
 have hb3 : Below w2.heap.size w2 w3 := by rw [← hw3.out]; exact below_al w2 _
 have HB2 : Hid (w3.heap[w2.heap.size]? = some (.cells #[.int .i64 (v1 : Int), .int .i64 (v2 : Int), .int .i64 (v3 : Int), .int .i64 (v4 : Int), .int .i64 im] 54 (0, 0))) := hd (by rw [← hw3.out]; exact heap_alloc_new w2 _)
 have HG : Hid (w3.heap[G]? = some (.cells #[.int .i64 0, .int .i64 0, .int .i64 0, .int .i64 0, .int .i64 0] 54 (0, 0))) := hd (by
  have h1 := (Array.getElem?_eq_some_iff.1 HB0.out).1
  rw [hb3.block G (Nat.lt_of_lt_of_le h1 HM.out.size), HM.out.block G h1 (by omega)]
  exact HB0.out)
 have hGG : G < w2.heap.size := Nat.lt_of_lt_of_le (Array.getElem?_eq_some_iff.1 HB0.out).1 HM.out.size
 have HF3 : Hid (Fld w3) := hd ((HF0.out.mod HM.out (by omega)).kept hb3)
 have O3 : Hid (ROut w r a cap bs s5 w3) := hd (O0.out.after hb3)
 obtain ⟨G2, hG2⟩ : ∃ G, Hid (w2.heap.size = G) := ⟨_, rfl⟩
 rw [hG2.out] at HB2 hGG ⊢
 clear hb3 hw3 HB0 HM O0 hG2 HF0
 have hck := check_any ⟨v1, v2, v3, v4, im⟩ n k w3 HF3.out
 unfold insV at hck
 simp only at hck
 have x0 := cell_of_row w3 G2 0 _ _ _ HB2.out
 have x1 := cell_of_row w3 G2 1 _ _ _ HB2.out
 have x2 := cell_of_row w3 G2 2 _ _ _ HB2.out
 have x3 := cell_of_row w3 G2 3 _ _ _ HB2.out
 have x4 := cell_of_row w3 G2 4 _ _ _ HB2.out
 simp at x0 x1 x2 x3 x4
 generalize (wrong ⟨v1, v2, v3, v4, im⟩ n k).1 = E at *
 go_upto_region 4 with (go_at_call 127; refine hck.mono ?_; rintro e w4 ⟨rfl, hb4⟩)
 clear x0 x1 x2 x3 x4 hck
 replace HB2 : Hid (w4.heap[G2]? = some (.cells #[.int .i64 (v1 : Int), .int .i64 (v2 : Int), .int .i64 (v3 : Int), .int .i64 (v4 : Int), .int .i64 im] 54 (0, 0))) := hd (by rw [hb4.block G2 (Array.getElem?_eq_some_iff.1 HB2.out).1]; exact HB2.out)
 replace HG : Hid (w4.heap[G]? = some (.cells #[.int .i64 0, .int .i64 0, .int .i64 0, .int .i64 0, .int .i64 0] 54 (0, 0))) := hd (by rw [hb4.block G (Array.getElem?_eq_some_iff.1 HG.out).1]; exact HG.out)
 replace HF3 : Hid (Fld w4) := hd (HF3.out.kept hb4)
 replace O3 : Hid (ROut w r a cap bs s5 w4) := hd (O3.out.after hb4)
 clear hb4
 by_cases hE : E = 0
 ·have HR : Hid (ROut w r a cap bs sI w4) := hd (by rw [HI.out, hE, failS_ok]; exact O3.out)
  subst hE
  have x0 := cell_of_row w4 G2 0 _ _ _ HB2.out
  have x1 := cell_of_row w4 G2 1 _ _ _ HB2.out
  have x2 := cell_of_row w4 G2 2 _ _ _ HB2.out
  have x3 := cell_of_row w4 G2 3 _ _ _ HB2.out
  have x4 := cell_of_row w4 G2 4 _ _ _ HB2.out
  have g0 := cell_of_row w4 G 0 _ _ _ HG.out
  have g1 := cell_of_row w4 G 1 _ _ _ HG.out
  have g2 := cell_of_row w4 G 2 _ _ _ HG.out
  have g3 := cell_of_row w4 G 3 _ _ _ HG.out
  have g4 := cell_of_row w4 G 4 _ _ _ HG.out
  simp at x0 x1 x2 x3 x4 g0 g1 g2 g3 g4
  have fr : ∀ i, w4.frozen? ⟨G, i, none⟩ = false := fun i => by simp [World.frozen?, HG.out]
  have HZ : Hid (ROut w r a cap bs sI (((((w4.setCell ⟨G, 0, none⟩ (.int .i64 (v1 : Int))).setCell ⟨G, 1, none⟩ (.int .i64 (v2 : Int))).setCell ⟨G, 2, none⟩ (.int .i64 (v3 : Int))).setCell ⟨G, 3, none⟩ (.int .i64 (v4 : Int))).setCell ⟨G, 4, none⟩ (.int .i64 im))) := hd
   (((((HR.out.put H.out (Nat.le_of_eq hG.out) _ _).put H.out (Nat.le_of_eq hG.out) _ _).put H.out (Nat.le_of_eq hG.out) _ _).put H.out (Nat.le_of_eq hG.out) _ _).put H.out (Nat.le_of_eq hG.out) _ _)
  have HH := hd (five_cells (v0 := .int .i64 (v1 : Int)) (v1 := .int .i64 (v2 : Int)) (v2 := .int .i64 (v3 : Int)) (v3 := .int .i64 (v4 : Int)) (v4 := .int .i64 im) HG.out)
  go_wp2_with fail
  obtain rfl : X = ⟨v1, v2, v3, v4, im⟩ := hX.out.symm
  generalize (((((w4.setCell ⟨G, 0, none⟩ (.int .i64 (v1 : Int))).setCell ⟨G, 1, none⟩ (.int .i64 (v2 : Int))).setCell ⟨G, 2, none⟩ (.int .i64 (v3 : Int))).setCell ⟨G, 3, none⟩ (.int .i64 (v4 : Int))).setCell ⟨G, 4, none⟩ (.int .i64 im)) = WZ at *
  have c0 := cell_of_row WZ G 0 _ _ _ HH.out
  have c1 := cell_of_row WZ G 1 _ _ _ HH.out
  have c2 := cell_of_row WZ G 2 _ _ _ HH.out
  have c3 := cell_of_row WZ G 3 _ _ _ HH.out
  have c4 := cell_of_row WZ G 4 _ _ _ HH.out
  simp at c0 c1 c2 c3 c4
  (try simp only [Exit.inBlock, Exit.then])
  refine bodyPost_ret (v := insV ⟨v1, v2, v3, v4, im⟩) ?_ rfl ⟨rfl, HZ.out⟩
  simp [results, Tryz.results100, go_sem, insV, c0, c1, c2, c3, c4]
 ·have hE' : (E == 0) = false := by simpa using hE
  have k0 := O3.out.1.cells.1
  have k2 := O3.out.1.cells.2.2.1
  have hle := O3.out.1.le
  have hcap := O3.out.1.room
  have q1 : (s.nx : Int) ≤ (s5.nx : Int) := by omega
  have q2 : (s5.nx : Int) ≤ (bs.length : Int) := by omega
  have q3 : (s5.nx : Int) ≤ (cap : Int) := by omega
  have hPL : 0 ≤ PL E ∧ PL E ≤ 12 := by
   rw [HPL.out]
   split
   ·omega
   ·have h1 := decR_place (cutB bs s.nx s5.nx)
    have h2 := cut_len hnx.1 hnx.2.1
    omega
  obtain ⟨AP, hAP, HPC⟩ : ∃ AP, Hid (∀ ad, a = some ad → (if cap = s.nx then some ad else some (ad.add s.nx)) = AP) ∧ Hid ((a = none → AP = none) ∧ Calls Tryz.prog 128 #[.slice AP (s5.nx - s.nx) (cap - s.nx), .int .i64 E] w4.drew fun e w' => e = .returned (.int .i64 (PL E)) ∧ Below w4.heap.size w4 w') := by
   refine ⟨cutA a cap s.nx, hd (fun ad h => by rw [h]; rfl), hd ⟨fun h => by rw [h]; rfl, ?_⟩⟩
   have hbw : Below w4.heap.size w4 w4.drew := below_draw w4 1
   have hl := cut_len hnx.1 hnx.2.1
   have hbt : Byt w4.drew (cutA a cap s.nx) (cutB bs s.nx s5.nx) := by
    by_cases hz : s.nx < s5.nx
    ·obtain ⟨b, o, rfl, hc⟩ := Rd.cut O3.out.1.rd hnx.1 hnx.2.1 hz
     unfold cutA
     simp only
     rw [if_neg (by omega), addr_add]
     exact Byt.of_rd (hc.below hbw)
    ·intro i hi
     omega
   have hp := place_any _ (cap - s.nx) (cutB bs s.nx s5.nx) E w4.drew hbt (HF3.out.kept hbw) (fun i => by
    by_cases hi : i < s5.nx - s.nx
    ·rw [cut_at hi]; exact H.out.byte _
    ·rw [List.getD_eq_getElem?_getD, List.getElem?_eq_none (by omega)]; decide) (by omega)
   rw [hl, ← HPL.out] at hp
   exact hp.mono fun e w' ⟨he, hb⟩ => ⟨he, hbw.trans hb⟩
  have HFC : Hid (∀ W, Below w4.heap.size w4 W → Calls Tryz.prog 98 #[.pointer (some ⟨r, 0, none⟩), .int .i64 E, .int .i64 (s.nx + PL E)] W fun e w' => e = .returned (.tuple #[]) ∧ ROut W r a cap bs sI w') := hd (by
   intro W hW
   have := fail_any (O3.out.after hW).1 E (s.nx + PL E)
   rw [← HI.out] at this
   exact this)
  have HEND : Hid (∀ W W', Below w4.heap.size w4 W → ROut W r a cap bs sI W' → ROut w r a cap bs sI W' ∧ W'.heap[G2]? = some (.cells #[.int .i64 (v1 : Int), .int .i64 (v2 : Int), .int .i64 (v3 : Int), .int .i64 (v4 : Int), .int .i64 im] 54 (0, 0)) ∧ W'.heap[G]? = some (.cells #[.int .i64 0, .int .i64 0, .int .i64 0, .int .i64 0, .int .i64 0] 54 (0, 0))) := hd (by
   intro W W' hW ho
   have l2 := (Array.getElem?_eq_some_iff.1 HB2.out).1
   have l1 := (Array.getElem?_eq_some_iff.1 HG.out).1
   refine ⟨(O3.out.after hW).trans ho, ?_, ?_⟩
   ·rw [ho.2.block G2 (Nat.lt_of_lt_of_le l2 hW.size) (by omega), hW.block G2 l2]
    exact HB2.out
   ·rw [ho.2.block G (Nat.lt_of_lt_of_le l1 hW.size) (by omega), hW.block G l1]
    exact HG.out)
  clear HI HPL HF3 HB2 HG O3 HF
  generalize PL E = D at *
  obtain ⟨Z, hZ⟩ : ∃ Z, (s.nx : Int) + D = Z := ⟨_, rfl⟩
  have hZ2 : IntKind.i64.wrap ((s.nx : Int) + D) = Z := by rw [hZ, IntKind.wrap_i64]; omega
  rw [hZ] at HFC
  clear hZ
  go_upto_region 5 with fail
  have hpc := HPC.out.2
  have hnn : s5.nx - s.nx ≤ 12 := by omega
  have hanone : Hid (a = none → AP = none) := hd HPC.out.1
  clear HPC
  replace hnx := hd hnx
  cases a with
  | none =>
   obtain rfl : AP = none := hanone.out rfl
   clear hAP hanone
   go_region_with (first | (go_at_call 128; refine hpc.mono ?_; rintro e w5 ⟨rfl, hb5⟩) | (go_at_call 98; with_reducible refine (HFC.out w5 hb5).mono ?_; rintro e w6 ⟨rfl, o6⟩))
   ·obtain ⟨HR, HB2, HG⟩ := HEND.out w5 w6 hb5 o6
    replace HR := hd HR
    replace HB2 := hd HB2
    replace HG := hd HG
    have x0 := cell_of_row w6 G2 0 _ _ _ HB2.out
    have x1 := cell_of_row w6 G2 1 _ _ _ HB2.out
    have x2 := cell_of_row w6 G2 2 _ _ _ HB2.out
    have x3 := cell_of_row w6 G2 3 _ _ _ HB2.out
    have x4 := cell_of_row w6 G2 4 _ _ _ HB2.out
    have g0 := cell_of_row w6 G 0 _ _ _ HG.out
    have g1 := cell_of_row w6 G 1 _ _ _ HG.out
    have g2 := cell_of_row w6 G 2 _ _ _ HG.out
    have g3 := cell_of_row w6 G 3 _ _ _ HG.out
    have g4 := cell_of_row w6 G 4 _ _ _ HG.out
    simp at x0 x1 x2 x3 x4 g0 g1 g2 g3 g4
    have fr : ∀ i, w6.frozen? ⟨G, i, none⟩ = false := fun i => by simp [World.frozen?, HG.out]
    have HZ : Hid (ROut w r none cap bs sI (((((w6.setCell ⟨G, 0, none⟩ (.int .i64 (v1 : Int))).setCell ⟨G, 1, none⟩ (.int .i64 (v2 : Int))).setCell ⟨G, 2, none⟩ (.int .i64 (v3 : Int))).setCell ⟨G, 3, none⟩ (.int .i64 (v4 : Int))).setCell ⟨G, 4, none⟩ (.int .i64 im))) := hd
     (((((HR.out.put H.out (Nat.le_of_eq hG.out) _ _).put H.out (Nat.le_of_eq hG.out) _ _).put H.out (Nat.le_of_eq hG.out) _ _).put H.out (Nat.le_of_eq hG.out) _ _).put H.out (Nat.le_of_eq hG.out) _ _)
    have HH := hd (five_cells (v0 := .int .i64 (v1 : Int)) (v1 := .int .i64 (v2 : Int)) (v2 := .int .i64 (v3 : Int)) (v3 := .int .i64 (v4 : Int)) (v4 := .int .i64 im) HG.out)
    go_wp2_with fail
    obtain rfl : X = ⟨v1, v2, v3, v4, im⟩ := hX.out.symm
    generalize (((((w6.setCell ⟨G, 0, none⟩ (.int .i64 (v1 : Int))).setCell ⟨G, 1, none⟩ (.int .i64 (v2 : Int))).setCell ⟨G, 2, none⟩ (.int .i64 (v3 : Int))).setCell ⟨G, 3, none⟩ (.int .i64 (v4 : Int))).setCell ⟨G, 4, none⟩ (.int .i64 im)) = WZ at *
    have c0 := cell_of_row WZ G 0 _ _ _ HH.out
    have c1 := cell_of_row WZ G 1 _ _ _ HH.out
    have c2 := cell_of_row WZ G 2 _ _ _ HH.out
    have c3 := cell_of_row WZ G 3 _ _ _ HH.out
    have c4 := cell_of_row WZ G 4 _ _ _ HH.out
    simp at c0 c1 c2 c3 c4
    (try simp only [Exit.inBlock, Exit.then])
    refine bodyPost_ret (v := insV ⟨v1, v2, v3, v4, im⟩) ?_ rfl ⟨rfl, HZ.out⟩
    simp [results, Tryz.results100, go_sem, insV, c0, c1, c2, c3, c4]
   ·obtain ⟨HR, HB2, HG⟩ := HEND.out w5 w6 hb5 o6
    replace HR := hd HR
    replace HB2 := hd HB2
    replace HG := hd HG
    have x0 := cell_of_row w6 G2 0 _ _ _ HB2.out
    have x1 := cell_of_row w6 G2 1 _ _ _ HB2.out
    have x2 := cell_of_row w6 G2 2 _ _ _ HB2.out
    have x3 := cell_of_row w6 G2 3 _ _ _ HB2.out
    have x4 := cell_of_row w6 G2 4 _ _ _ HB2.out
    have g0 := cell_of_row w6 G 0 _ _ _ HG.out
    have g1 := cell_of_row w6 G 1 _ _ _ HG.out
    have g2 := cell_of_row w6 G 2 _ _ _ HG.out
    have g3 := cell_of_row w6 G 3 _ _ _ HG.out
    have g4 := cell_of_row w6 G 4 _ _ _ HG.out
    simp at x0 x1 x2 x3 x4 g0 g1 g2 g3 g4
    have fr : ∀ i, w6.frozen? ⟨G, i, none⟩ = false := fun i => by simp [World.frozen?, HG.out]
    have HZ : Hid (ROut w r none cap bs sI (((((w6.setCell ⟨G, 0, none⟩ (.int .i64 (v1 : Int))).setCell ⟨G, 1, none⟩ (.int .i64 (v2 : Int))).setCell ⟨G, 2, none⟩ (.int .i64 (v3 : Int))).setCell ⟨G, 3, none⟩ (.int .i64 (v4 : Int))).setCell ⟨G, 4, none⟩ (.int .i64 im))) := hd
     (((((HR.out.put H.out (Nat.le_of_eq hG.out) _ _).put H.out (Nat.le_of_eq hG.out) _ _).put H.out (Nat.le_of_eq hG.out) _ _).put H.out (Nat.le_of_eq hG.out) _ _).put H.out (Nat.le_of_eq hG.out) _ _)
    have HH := hd (five_cells (v0 := .int .i64 (v1 : Int)) (v1 := .int .i64 (v2 : Int)) (v2 := .int .i64 (v3 : Int)) (v3 := .int .i64 (v4 : Int)) (v4 := .int .i64 im) HG.out)
    go_wp2_with fail
    obtain rfl : X = ⟨v1, v2, v3, v4, im⟩ := hX.out.symm
    generalize (((((w6.setCell ⟨G, 0, none⟩ (.int .i64 (v1 : Int))).setCell ⟨G, 1, none⟩ (.int .i64 (v2 : Int))).setCell ⟨G, 2, none⟩ (.int .i64 (v3 : Int))).setCell ⟨G, 3, none⟩ (.int .i64 (v4 : Int))).setCell ⟨G, 4, none⟩ (.int .i64 im)) = WZ at *
    have c0 := cell_of_row WZ G 0 _ _ _ HH.out
    have c1 := cell_of_row WZ G 1 _ _ _ HH.out
    have c2 := cell_of_row WZ G 2 _ _ _ HH.out
    have c3 := cell_of_row WZ G 3 _ _ _ HH.out
    have c4 := cell_of_row WZ G 4 _ _ _ HH.out
    simp at c0 c1 c2 c3 c4
    (try simp only [Exit.inBlock, Exit.then])
    refine bodyPost_ret (v := insV ⟨v1, v2, v3, v4, im⟩) ?_ rfl ⟨rfl, HZ.out⟩
    simp [results, Tryz.results100, go_sem, insV, c0, c1, c2, c3, c4]
  | some ad =>
   have eAP := hAP.out ad rfl
   clear hAP hanone
   go_region_with (first | (go_at_call 128; refine hpc.mono ?_; rintro e w5 ⟨rfl, hb5⟩) | (go_at_call 98; with_reducible refine (HFC.out w5 hb5).mono ?_; rintro e w6 ⟨rfl, o6⟩))
   ·obtain ⟨HR, HB2, HG⟩ := HEND.out w5 w6 hb5 o6
    replace HR := hd HR
    replace HB2 := hd HB2
    replace HG := hd HG
    have x0 := cell_of_row w6 G2 0 _ _ _ HB2.out
    have x1 := cell_of_row w6 G2 1 _ _ _ HB2.out
    have x2 := cell_of_row w6 G2 2 _ _ _ HB2.out
    have x3 := cell_of_row w6 G2 3 _ _ _ HB2.out
    have x4 := cell_of_row w6 G2 4 _ _ _ HB2.out
    have g0 := cell_of_row w6 G 0 _ _ _ HG.out
    have g1 := cell_of_row w6 G 1 _ _ _ HG.out
    have g2 := cell_of_row w6 G 2 _ _ _ HG.out
    have g3 := cell_of_row w6 G 3 _ _ _ HG.out
    have g4 := cell_of_row w6 G 4 _ _ _ HG.out
    simp at x0 x1 x2 x3 x4 g0 g1 g2 g3 g4
    have fr : ∀ i, w6.frozen? ⟨G, i, none⟩ = false := fun i => by simp [World.frozen?, HG.out]
    have HZ : Hid (ROut w r (some ad) cap bs sI (((((w6.setCell ⟨G, 0, none⟩ (.int .i64 (v1 : Int))).setCell ⟨G, 1, none⟩ (.int .i64 (v2 : Int))).setCell ⟨G, 2, none⟩ (.int .i64 (v3 : Int))).setCell ⟨G, 3, none⟩ (.int .i64 (v4 : Int))).setCell ⟨G, 4, none⟩ (.int .i64 im))) := hd
     (((((HR.out.put H.out (Nat.le_of_eq hG.out) _ _).put H.out (Nat.le_of_eq hG.out) _ _).put H.out (Nat.le_of_eq hG.out) _ _).put H.out (Nat.le_of_eq hG.out) _ _).put H.out (Nat.le_of_eq hG.out) _ _)
    have HH := hd (five_cells (v0 := .int .i64 (v1 : Int)) (v1 := .int .i64 (v2 : Int)) (v2 := .int .i64 (v3 : Int)) (v3 := .int .i64 (v4 : Int)) (v4 := .int .i64 im) HG.out)
    go_wp2_with fail
    obtain rfl : X = ⟨v1, v2, v3, v4, im⟩ := hX.out.symm
    generalize (((((w6.setCell ⟨G, 0, none⟩ (.int .i64 (v1 : Int))).setCell ⟨G, 1, none⟩ (.int .i64 (v2 : Int))).setCell ⟨G, 2, none⟩ (.int .i64 (v3 : Int))).setCell ⟨G, 3, none⟩ (.int .i64 (v4 : Int))).setCell ⟨G, 4, none⟩ (.int .i64 im)) = WZ at *
    have c0 := cell_of_row WZ G 0 _ _ _ HH.out
    have c1 := cell_of_row WZ G 1 _ _ _ HH.out
    have c2 := cell_of_row WZ G 2 _ _ _ HH.out
    have c3 := cell_of_row WZ G 3 _ _ _ HH.out
    have c4 := cell_of_row WZ G 4 _ _ _ HH.out
    simp at c0 c1 c2 c3 c4
    (try simp only [Exit.inBlock, Exit.then])
    refine bodyPost_ret (v := insV ⟨v1, v2, v3, v4, im⟩) ?_ rfl ⟨rfl, HZ.out⟩
    simp [results, Tryz.results100, go_sem, insV, c0, c1, c2, c3, c4]
   ·obtain ⟨HR, HB2, HG⟩ := HEND.out w5 w6 hb5 o6
    replace HR := hd HR
    replace HB2 := hd HB2
    replace HG := hd HG
    have x0 := cell_of_row w6 G2 0 _ _ _ HB2.out
    have x1 := cell_of_row w6 G2 1 _ _ _ HB2.out
    have x2 := cell_of_row w6 G2 2 _ _ _ HB2.out
    have x3 := cell_of_row w6 G2 3 _ _ _ HB2.out
    have x4 := cell_of_row w6 G2 4 _ _ _ HB2.out
    have g0 := cell_of_row w6 G 0 _ _ _ HG.out
    have g1 := cell_of_row w6 G 1 _ _ _ HG.out
    have g2 := cell_of_row w6 G 2 _ _ _ HG.out
    have g3 := cell_of_row w6 G 3 _ _ _ HG.out
    have g4 := cell_of_row w6 G 4 _ _ _ HG.out
    simp at x0 x1 x2 x3 x4 g0 g1 g2 g3 g4
    have fr : ∀ i, w6.frozen? ⟨G, i, none⟩ = false := fun i => by simp [World.frozen?, HG.out]
    have HZ : Hid (ROut w r (some ad) cap bs sI (((((w6.setCell ⟨G, 0, none⟩ (.int .i64 (v1 : Int))).setCell ⟨G, 1, none⟩ (.int .i64 (v2 : Int))).setCell ⟨G, 2, none⟩ (.int .i64 (v3 : Int))).setCell ⟨G, 3, none⟩ (.int .i64 (v4 : Int))).setCell ⟨G, 4, none⟩ (.int .i64 im))) := hd
     (((((HR.out.put H.out (Nat.le_of_eq hG.out) _ _).put H.out (Nat.le_of_eq hG.out) _ _).put H.out (Nat.le_of_eq hG.out) _ _).put H.out (Nat.le_of_eq hG.out) _ _).put H.out (Nat.le_of_eq hG.out) _ _)
    have HH := hd (five_cells (v0 := .int .i64 (v1 : Int)) (v1 := .int .i64 (v2 : Int)) (v2 := .int .i64 (v3 : Int)) (v3 := .int .i64 (v4 : Int)) (v4 := .int .i64 im) HG.out)
    go_wp2_with fail
    obtain rfl : X = ⟨v1, v2, v3, v4, im⟩ := hX.out.symm
    generalize (((((w6.setCell ⟨G, 0, none⟩ (.int .i64 (v1 : Int))).setCell ⟨G, 1, none⟩ (.int .i64 (v2 : Int))).setCell ⟨G, 2, none⟩ (.int .i64 (v3 : Int))).setCell ⟨G, 3, none⟩ (.int .i64 (v4 : Int))).setCell ⟨G, 4, none⟩ (.int .i64 im)) = WZ at *
    have c0 := cell_of_row WZ G 0 _ _ _ HH.out
    have c1 := cell_of_row WZ G 1 _ _ _ HH.out
    have c2 := cell_of_row WZ G 2 _ _ _ HH.out
    have c3 := cell_of_row WZ G 3 _ _ _ HH.out
    have c4 := cell_of_row WZ G 4 _ _ _ HH.out
    simp at c0 c1 c2 c3 c4
    (try simp only [Exit.inBlock, Exit.then])
    refine bodyPost_ret (v := insV ⟨v1, v2, v3, v4, im⟩) ?_ rfl ⟨rfl, HZ.out⟩
    simp [results, Tryz.results100, go_sem, insV, c0, c1, c2, c3, c4]
end
end Go.Proofs.YthhcecllejddeaaGreatDoor
