/- CodeKeeps. -/
import Derived.Test.YtngihjmhedkanabDoorK2
namespace Go.Proofs.YtngihjmhedkanabDoor
open Go.RowKit

/-- The block of a value, if any, lies between two bounds. -/
def In (v : Value) (A B : Nat) : Prop := A ≤ B ∧ ∀ k, v.ownBlock = some k → A ≤ k ∧ k < B

theorem In.of {w w' : World} {e : TypeId} {s n : Nat} {v : Value} {xs : List Value} (h : w'.ownsRow w.heap.size e s v n xs) (hb : Below w.heap.size w w') : In v w.heap.size w'.heap.size := ⟨hb.size, fun k hk => h.lt k hk⟩

/-- Where the rows of the call lie: each behind those before it. -/
def Lies (w : World) (gw gv : Nat) (vx vy vp vq : Value) (E : Nat) : Prop :=
  ∃ T1 T2 T2' T3 T4 T5 : Nat, w.heap.size ≤ gw ∧ gw < T1 ∧ T1 ≤ gv ∧ gv < T2 ∧ T2 ≤ T2' ∧ In vx T2' T3 ∧ In vy T3 T4 ∧ In vp T4 T5 ∧ In vq T5 E

section
variable {w : World} {gw gv : Nat} {vx vy vp vq : Value} {E : Nat} (h : Lies w gw gv vx vy vp vq E)
include h
theorem Lies.own : w.heap.size ≤ gw ∧ w.heap.size ≤ gv ∧ gv ≠ gw := by
  obtain ⟨_, _, _, _, _, _, h1, h2, h3, h4, h5, hx, hy, hp, hq⟩ := h
  exact ⟨h1, by omega, by omega⟩
theorem Lies.x (k : Nat) (hk : vx.ownBlock = some k) : w.heap.size ≤ k ∧ k < E ∧ k ≠ gw ∧ k ≠ gv := by
  obtain ⟨_, _, _, _, _, _, h1, h2, h3, h4, h5, hx, hy, hp, hq⟩ := h
  have := hx.2 k hk
  have := hy.1
  have := hp.1
  have := hq.1
  omega
theorem Lies.y (k : Nat) (hk : vy.ownBlock = some k) : k < E ∧ k ≠ gw ∧ k ≠ gv ∧ some k ≠ vx.ownBlock ∧ some k ≠ vp.ownBlock := by
  obtain ⟨_, _, _, _, _, _, h1, h2, h3, h4, h5, hx, hy, hp, hq⟩ := h
  have := hy.2 k hk
  have := hx.1
  have := hp.1
  have := hq.1
  exact ⟨by omega, by omega, by omega, fun e => by have := hx.2 k e.symm; omega, fun e => by have := hp.2 k e.symm; omega⟩
theorem Lies.p (k : Nat) (hk : vp.ownBlock = some k) : w.heap.size ≤ k ∧ k < E ∧ k ≠ gw ∧ k ≠ gv ∧ some k ≠ vx.ownBlock := by
  obtain ⟨_, _, _, _, _, _, h1, h2, h3, h4, h5, hx, hy, hp, hq⟩ := h
  have := hp.2 k hk
  have := hx.1
  have := hy.1
  have := hq.1
  exact ⟨by omega, by omega, by omega, by omega, fun e => by have := hx.2 k e.symm; omega⟩
theorem Lies.q (k : Nat) (hk : vq.ownBlock = some k) : k < E ∧ k ≠ gw ∧ k ≠ gv ∧ some k ≠ vx.ownBlock ∧ some k ≠ vp.ownBlock := by
  obtain ⟨_, _, _, _, _, _, h1, h2, h3, h4, h5, hx, hy, hp, hq⟩ := h
  have := hq.2 k hk
  have := hx.1
  have := hp.1
  have := hy.1
  exact ⟨by omega, by omega, by omega, fun e => by have := hx.2 k e.symm; omega, fun e => by have := hp.2 k e.symm; omega⟩
end

theorem own_some {g n c k : Nat} (h : (Value.slice (some ⟨g, 0, none⟩) n c).ownBlock = some k) : k = g := (Option.some.inj h).symm

def U8s (xs : List Value) (m : Nat) : Prop := ∀ t, t < m → ∃ z, xs[t]? = some (.int .u8 z)

theorem U8s.of (bs : List Nat) (m : Nat) (h : m ≤ bs.length) : U8s (bCells bs) m := fun t ht => ⟨((bs.getD t 0 : Nat) : Int), by
  have : t < bs.length := by omega
  simp [bCells, List.getD_eq_getElem?_getD, this]⟩
theorem U8s.put {xs : List Value} {m : Nat} (h : U8s xs m) (i : Nat) (z : Int) : U8s (xs.set i (.int .u8 z)) m := fun t ht => by
  obtain ⟨y, hy⟩ := h t ht
  rw [List.getElem?_set]
  split
  · split
    · exact ⟨z, rfl⟩
    · next h2 =>
      rename_i h1
      subst h1
      rw [List.getElem?_eq_none (by omega)] at hy
      cases hy
  · exact ⟨y, hy⟩

/-- Two rows of the call's own that grow, each apart from the other. -/
structure Grow (w W wr : World) (bx bp : Option Nat) (vA : Value) (nA : Nat) (vB : Value) (nB : Nat) : Prop where
  oa : ∃ xs, wr.ownsRow w.heap.size 5 1 vA nA xs
  ob : ∃ xs, wr.ownsRow w.heap.size 27 5 vB nB xs
  ap : Apart W wr bx bp
  da : ∀ k, vA.ownBlock = some k → some k = bx ∨ some k = bp ∨ W.heap.size ≤ k
  db : ∀ k, vB.ownBlock = some k → some k = bx ∨ some k = bp ∨ W.heap.size ≤ k
  dd : ∀ k, vA.ownBlock = some k → vB.ownBlock ≠ some k

theorem Grow.left {w W wr w1 : World} {bx bp : Option Nat} {vA vB : Value} {nA nB n g c : Nat} {o : Obj} {xs : List Value} (h : Grow w W wr bx bp vA nA vB nB)
    (o1 : w1.ownsRow w.heap.size 5 1 (.slice (some ⟨g, 0, none⟩) n c) n xs) (gr : (wr.alloc o).grownBy w1 vA.ownBlock) (li : vA.ownBlock = some g ∨ g = (wr.alloc o).heap.size) :
    Grow w W w1 bx bp (.slice (some ⟨g, 0, none⟩) n c) n vB nB := by
  obtain ⟨ys, ob⟩ := h.ob
  have hsz : (wr.alloc o).heap.size = wr.heap.size + 1 := by simp
  have hs := h.ap.size
  refine ⟨⟨xs, o1⟩, ⟨ys, owns_grown (ob.alloc o) gr (fun b hb e => h.dd b e.symm hb)⟩, ?_, ?_, h.db, ?_⟩
  · exact (h.ap.step (World.grownBy_alloc wr o none) (fun g hg => by cases hg)).step gr (fun k hk => h.da k hk)
  · intro k hk
    obtain rfl := own_some hk
    rcases li with li | li
    · exact h.da k li
    · exact .inr (.inr (by omega))
  · intro k hk e
    obtain rfl := own_some hk
    rcases li with li | li
    · exact h.dd k li e
    · have := (ob.lt k e).2
      omega

theorem Grow.right {w W wr w1 : World} {bx bp : Option Nat} {vA vB : Value} {nA nB n g c : Nat} {o : Obj} {xs : List Value} (h : Grow w W wr bx bp vA nA vB nB)
    (o1 : w1.ownsRow w.heap.size 27 5 (.slice (some ⟨g, 0, none⟩) n c) n xs) (gr : (wr.alloc o).grownBy w1 vB.ownBlock) (li : vB.ownBlock = some g ∨ g = (wr.alloc o).heap.size) :
    Grow w W w1 bx bp vA nA (.slice (some ⟨g, 0, none⟩) n c) n := by
  obtain ⟨ys, oa⟩ := h.oa
  have hsz : (wr.alloc o).heap.size = wr.heap.size + 1 := by simp
  have hs := h.ap.size
  refine ⟨⟨ys, owns_grown (oa.alloc o) gr (fun b hb e => h.dd b hb e.symm)⟩, ⟨xs, o1⟩, ?_, h.da, ?_, ?_⟩
  · exact (h.ap.step (World.grownBy_alloc wr o none) (fun g hg => by cases hg)).step gr (fun k hk => h.db k hk)
  · intro k hk
    obtain rfl := own_some hk
    rcases li with li | li
    · exact h.db k li
    · exact .inr (.inr (by omega))
  · intro k hk e
    obtain rfl := own_some e
    rcases li with li | li
    · exact h.dd k hk li
    · have := (oa.lt k hk).2
      omega

def marks : List Nat := [161, 162, 163]

set_option maxRecDepth 100000 in
set_option maxHeartbeats 40000000 in
theorem codeKeeps_walk (a : Option Addr) (cap : Nat) (l : List Ins) (a2 : Option Addr) (cc : Nat) (bs : List Nat) (w : World) (hP : Prg w a l) (hlc : l.length ≤ cap) (hn1 : a = none → cap = 0)
    (hB : Byt w a2 bs) (hb : ∀ i, bs.getD i 0 < 256) (hbc : bs.length ≤ cc) (hn2 : a2 = none → cc = 0) (hF : Fld w) :
    Calls Tryd.prog 3 #[.slice a l.length cap, .slice a2 bs.length cc] w fun e w' => e = .returned (.bool true) ∧ Below w.heap.size w w' := by
  have haw := awake_any w hF
  have HF : Hid (Fld w) := hF
  obtain ⟨L, hLd⟩ : ∃ L, Hid (L = l.take 1048576) := ⟨_, rfl⟩
  obtain ⟨Bs, hBd⟩ : ∃ L, Hid (L = bs.take 1048576) := ⟨_, rfl⟩
  have hLl : L.length = min l.length 1048576 := by rw [hLd.out, List.length_take, Nat.min_comm]
  have hBl : Bs.length = min bs.length 1048576 := by rw [hBd.out, List.length_take, Nat.min_comm]
  have HP : Hid (Prg w a L) := hd (by rw [hLd.out]; exact hP.take _)
  have HB : Hid (Byt w a2 Bs) := hd (by rw [hBd.out]; exact hB.take _)
  have Hb : Hid (∀ i, Bs.getD i 0 < 256) := hd (by
    intro i
    rw [hBd.out]
    by_cases hi : i < 1048576
    · have e2 : (bs.take 1048576).getD i 0 = bs.getD i 0 := by simp only [List.getD_eq_getElem?_getD, List.getElem?_take, hi, if_true]
      rw [e2]; exact hb i
    · rw [List.getD_eq_getElem?_getD, List.getElem?_eq_none (by rw [List.length_take]; omega)]; decide)
  have hsh : ∀ W, Calls Tryd.prog 5 #[.slice a l.length cap] W fun e w' => e = .returned (.slice a L.length L.length) ∧ w' = W := fun W => by
    have := short_any a l.length cap W hlc
    rw [← hLl] at this
    exact this
  have hsb : ∀ W, Calls Tryd.prog 6 #[.slice a2 bs.length cc] W fun e w' => e = .returned (.slice a2 Bs.length Bs.length) ∧ w' = W := fun W => by
    have := shortB_any a2 bs.length cc W hbc
    rw [← hBl] at this
    exact this
  have hN : L.length ≤ 1048576 := by omega
  have hM : Bs.length ≤ 1048576 := by omega
  have hwd := fun W (hb : Below w.heap.size w W) => wide_any a L.length L W (HP.out.kept hb) (fun h => by have := hn1 h; omega) hN
  have hwb := fun W (hb : Below w.heap.size w W) => wideBytes_any a2 Bs.length Bs W (HB.out.kept hb) (fun h => by have := hn2 h; omega) hM
  have HA2 : Hid (a2 = none → Bs.length = 0) := hd (fun h => by have := hn2 h; omega)
  clear hF hP hlc hLl hLd hB hb hBl hBd hbc hn1 hn2
  generalize l.length = ll at *
  generalize bs.length = bl at *
  go_enter Tryd.func3, Tryd.ntmps3
  go_wp2_with fail
  refine haw.mono ?_
  rintro e w1 ⟨rfl, b1⟩
  go_wp2_with fail
  refine (hsh w1).mono ?_
  rintro e w2 ⟨rfl, rfl⟩
  go_wp2_with fail
  refine (hsb w2).mono ?_
  rintro e w3 ⟨rfl, rfl⟩
  clear haw hsh hsb
  obtain ⟨N, hNd⟩ : ∃ N, Hid (L.length = N) := ⟨_, rfl⟩
  obtain ⟨M, hMd⟩ : ∃ N, Hid (Bs.length = N) := ⟨_, rfl⟩
  simp only [hNd.out] at hwd hN ⊢
  simp only [hMd.out] at hwb hM HA2 ⊢
  go_wp2_with fail
  refine (hwd w3 b1).mono ?_
  rintro e w4 ⟨gw, rfl, ow, b4⟩
  have bw4 := b1.trans (b4.mono b1.size)
  clear hwd
  go_wp2_with fail
  refine (hwb w4 bw4).mono ?_
  rintro e w5 ⟨gv, rfl, ov, b5⟩
  have bw5 := bw4.trans (b5.mono bw4.size)
  clear hwb
  have D1 : Hid (w.heap.size ≤ gw ∧ gw < w4.heap.size ∧ w4.heap.size ≤ gv ∧ gv < w5.heap.size) := hd (by
    have h1 := ow.lt gw rfl
    have h2 := ov.lt gv rfl
    have := b1.size
    omega)
  have OW := hd (owns_mono (owns_below ow b5) b1.size)
  have OV := hd (owns_mono ov bw4.size)
  clear ow ov b4 b5 bw4 b1
  have hmay := may_any (some ⟨gw, 0, none⟩) (N + 2) L 8 w5 (prg_head (row_prog OW.out).1) (HF.out.kept bw5)
  simp only [hNd.out] at hmay
  go_wp2_with fail
  refine hmay.mono ?_
  rintro e w6 ⟨rfl, b6⟩
  have bw6 := bw5.trans (b6.mono bw5.size)
  replace OW := hd (owns_below OW.out b6)
  replace OV := hd (owns_below OV.out b6)
  have S56 := hd b6.size
  clear hmay b6 bw5
  generalize mayL L 8 = R
  obtain ⟨RE, RA⟩ := R
  simp only
  obtain ⟨X, hX⟩ : ∃ X, Hid (encS L = X) := ⟨_, rfl⟩
  obtain ⟨Q, hQ⟩ : ∃ X, Hid (decS Bs = X) := ⟨_, rfl⟩
  obtain ⟨NX, hNX⟩ : ∃ n, Hid (X.length = n) := ⟨_, rfl⟩
  obtain ⟨NQ, hNQ⟩ : ∃ n, Hid (Q.length = n) := ⟨_, rfl⟩
  have lX : NX ≤ 3072 := by have := encS_len L; rw [hX.out, hNX.out] at this; exact this
  have lQ : NQ ≤ 256 := by have := decS_len Bs; rw [hQ.out, hNQ.out] at this; exact this
  have HXb : Hid (∀ i, X.getD i 0 < 256) := hd (by have := encS_bytes L; rw [hX.out] at this; exact this)
  have hen := encode_one (some ⟨gw, 0, none⟩) (N + 2) L w6 (prg_head (row_prog OW.out).1) (HF.out.kept bw6)
  simp only [hNd.out, hX.out, hNX.out] at hen
  go_wp2_with fail
  refine hen.mono ?_
  rintro e w7 ⟨rx, cx, EX, AX, rfl, ox, b7⟩
  have bw7 := bw6.trans (b7.mono bw6.size)
  replace OW := hd (owns_below OW.out b7)
  replace OV := hd (owns_below OV.out b7)
  have IX := hd (In.of ox b7)
  have OX := hd (owns_mono ox bw6.size)
  clear hen b7 bw6 ox
  have hen := encode_one (some ⟨gw, 0, none⟩) (N + 2) L w7 (prg_head (row_prog OW.out).1) (HF.out.kept bw7)
  simp only [hNd.out, hX.out, hNX.out] at hen
  go_wp2_with fail
  refine hen.mono ?_
  rintro e w8 ⟨ry, cy, EY, AY, rfl, oy, b8⟩
  have bw8 := bw7.trans (b8.mono bw7.size)
  replace OW := hd (owns_below OW.out b8)
  replace OV := hd (owns_below OV.out b8)
  replace OX := hd (owns_below OX.out b8)
  have IY := hd (In.of oy b8)
  have OY := hd (owns_mono oy bw7.size)
  clear hen b8 bw7 oy
  have hde := decode_any (some ⟨gv, 0, none⟩) (M + 3) Bs w8 (byt_head (row_byt OV.out).1) (HF.out.kept bw8) Hb.out (by rw [hMd.out]; omega)
  simp only [hMd.out] at hde
  go_wp2_with fail
  refine hde.mono ?_
  intro e w9 h9
  replace h9 := decPost_one h9
  simp only [hQ.out, hNQ.out] at h9
  obtain ⟨rp, cp, EP, AP, rfl, op, b9⟩ := h9
  have bw9 := bw8.trans (b9.mono bw8.size)
  replace OW := hd (owns_below OW.out b9)
  replace OV := hd (owns_below OV.out b9)
  replace OX := hd (owns_below OX.out b9)
  replace OY := hd (owns_below OY.out b9)
  have IP := hd (In.of op b9)
  have OP := hd (owns_mono op bw8.size)
  clear hde b9 bw8 op
  have hde := decode_any (some ⟨gv, 0, none⟩) (M + 3) Bs w9 (byt_head (row_byt OV.out).1) (HF.out.kept bw9) Hb.out (by rw [hMd.out]; omega)
  simp only [hMd.out] at hde
  go_wp2_with fail
  refine hde.mono ?_
  intro e w10 h10
  replace h10 := decPost_one h10
  simp only [hQ.out, hNQ.out] at h10
  obtain ⟨rq, cq, EQ, AQ, rfl, oq, b10⟩ := h10
  have bw10 := bw9.trans (b10.mono bw9.size)
  replace OW := hd (owns_below OW.out b10)
  replace OV := hd (owns_below OV.out b10)
  replace OX := hd (owns_below OX.out b10)
  replace OY := hd (owns_below OY.out b10)
  replace OP := hd (owns_below OP.out b10)
  have IQ := hd (In.of oq b10)
  have OQ := hd (owns_mono oq bw9.size)
  clear hde b10 bw9 oq
  have LL : Hid (Lies w gw gv (.slice rx NX cx) (.slice ry NX cy) (.slice rp NQ cp) (.slice rq NQ cq) w10.heap.size) := hd ⟨w4.heap.size, w5.heap.size, w6.heap.size, w7.heap.size, w8.heap.size, w9.heap.size, D1.out.1, D1.out.2.1, D1.out.2.2.1, D1.out.2.2.2, S56.out, IX.out, IY.out, IP.out, IQ.out⟩
  clear D1 S56 IX IY IP IQ
  have hkp := kept_any a gw N L w10 (by rw [hNd.out]; exact hN) (row_prog OW.out).1 (HP.out.kept bw10)
  simp only [hNd.out] at hkp
  go_wp2_with fail
  refine hkp.mono ?_
  rintro e w11 ⟨rfl, n1, rfl⟩
  obtain ⟨W, hW⟩ : ∃ W, Hid (W = w10.drewN n1) := ⟨_, rfl⟩
  have bW : Below w.heap.size w W := by rw [hW.out]; exact below_drewN bw10 n1
  replace OW : Hid (W.ownsRow _ _ _ _ _ _) := hd (by rw [hW.out]; exact owns_drewN OW.out n1)
  replace OV : Hid (W.ownsRow _ _ _ _ _ _) := hd (by rw [hW.out]; exact owns_drewN OV.out n1)
  replace OX : Hid (W.ownsRow _ _ _ _ _ _) := hd (by rw [hW.out]; exact owns_drewN OX.out n1)
  replace OY : Hid (W.ownsRow _ _ _ _ _ _) := hd (by rw [hW.out]; exact owns_drewN OY.out n1)
  replace OP : Hid (W.ownsRow _ _ _ _ _ _) := hd (by rw [hW.out]; exact owns_drewN OP.out n1)
  replace OQ : Hid (W.ownsRow _ _ _ _ _ _) := hd (by rw [hW.out]; exact owns_drewN OQ.out n1)
  replace LL : Hid (Lies w gw gv (.slice rx NX cx) (.slice ry NX cy) (.slice rp NQ cp) (.slice rq NQ cq) W.heap.size) := hd (by rw [hW.out]; exact LL.out)
  rw [← hW.out]
  clear hkp bw10 hW
  have s1 : (convert 23 9 (.slice (some ⟨gv, 0, none⟩) M (M + 3))).run Tryd.prog W = .ok (.string ⟨(toU Bs).toArray⟩) W := by
    have := string_any (cap := M + 3) (byt_head (row_byt OV.out).1) Hb.out (fun h => by cases h)
    rwa [hMd.out] at this
  have s2 : (convert 23 9 (.slice a2 M M)).run Tryd.prog W = .ok (.string ⟨(toU Bs).toArray⟩) W := by
    have := string_any (cap := M) (HB.out.kept bW) Hb.out HA2.out
    rwa [hMd.out] at this
  have s3 : (convert 23 9 (.slice (some ⟨gv, M, none⟩) 3 3)).run Tryd.prog W = .ok (.string ⟨#[161, 162, 163]⟩) W := by
    have h := byt_tail (row_byt OV.out).1
    rw [hMd.out, Nat.zero_add] at h
    exact string_any (bs := [161, 162, 163]) (cap := 3) h (lt_bytes (by decide)) (fun h => by cases h)
  generalize toU Bs = S at s1 s2
  have bWs := bW.size
  go_wp2_with fail
  clear s1 s2 s3
  go_loopw [19, 90] (fun _ v90 wr => ∃ (i : Nat) (xs : List Value), v90 = .int .i64 i ∧ i ≤ N ∧ Hid (wr.ownsRow w.heap.size 27 5 (.slice (some ⟨gw, 0, none⟩) (N + 2) (N + 2)) (N + 2) xs) ∧ Hid (Apart W wr (some gw) none)) (fun _ v90 _ => N - (intOf v90).toNat)
  case atStart => exact ⟨0, _, rfl, Nat.zero_le _, OW, hd (Apart.refl _ _ _)⟩
  case round =>
    obtain ⟨i, xs, rfl, hi, OR, AR⟩ := hrel
    by_cases hlt : i < N
    · have hlt' : (i : Int) < (N : Int) := by omega
      have hxl := OR.out.1
      have key : ∀ r, r < 5 → ∃ u, wr.cell? ⟨gw, i * 5 + r, none⟩ = some u := fun r hr => ⟨xs[i * 5 + r]'(by omega), by rw [OR.out.cellAt _ (by omega), List.getElem?_eq_getElem (by omega)]⟩
      obtain ⟨u0, c0⟩ := key 0 (by omega)
      obtain ⟨u1, c1⟩ := key 1 (by omega)
      obtain ⟨u2, c2⟩ := key 2 (by omega)
      obtain ⟨u3, c3⟩ := key 3 (by omega)
      obtain ⟨u4, c4⟩ := key 4 (by omega)
      have f0 := OR.out.frozenAt (i * 5)
      have f1 := OR.out.frozenAt (i * 5 + 1)
      have f2 := OR.out.frozenAt (i * 5 + 2)
      have f3 := OR.out.frozenAt (i * 5 + 3)
      have f4 := OR.out.frozenAt (i * 5 + 4)
      rw [Nat.add_zero] at c0
      clear key hxl
      go_wp2_with fail
      have s5 := stored5 OR.out (i * 5) ⟨5, 5, 0, 0, 0⟩
      go_roundw
      case rel => exact ⟨i + 1, _, by go_num, by omega, hd s5.1, hd (AR.out.step s5.2 (fun g hg => .inl hg.symm))⟩
      case measure => simp [intOf]; omega
    · have hltd : decide ((i : Int) < (N : Int)) = false := by simp; omega
      obtain ⟨W2, hW2⟩ : ∃ W2, W2 = wr := ⟨_, rfl⟩
      subst hW2
      clear OR
      go_wp2_with fail
      clear hlt hltd hi
      replace OV := hd (owns_apart OV.out AR.out (fun k hk => by have := own_some hk; have := LL.out.own; exact ⟨fun e => by have := Option.some.inj e; omega, fun e => by cases e⟩))
      go_loopw [20, 100] (fun _ v100 wr => ∃ (i : Nat) (xs : List Value), v100 = .int .i64 i ∧ i ≤ M ∧ Hid (wr.ownsRow w.heap.size 5 1 (.slice (some ⟨gv, 0, none⟩) (M + 3) (M + 3)) (M + 3) xs) ∧ Hid (U8s xs M) ∧ Hid (Apart W2 wr (some gv) none)) (fun _ v100 _ => M - (intOf v100).toNat)
      case atStart => exact ⟨0, _, rfl, Nat.zero_le _, OV, hd (U8s.of _ _ (by rw [List.length_append, hMd.out]; omega)), hd (Apart.refl _ _ _)⟩
      case round =>
        obtain ⟨i, xs, rfl, hi, OR, UR, AS⟩ := hrel
        by_cases hlt : i < M
        · have hlt' : (i : Int) < (M : Int) := by omega
          obtain ⟨z, hz⟩ := UR.out i hlt
          have c0 : wr.cell? ⟨gv, i, none⟩ = some (.int .u8 z) := by rw [OR.out.cellAt _ (by omega)]; exact hz
          have f0 := OR.out.frozenAt i
          clear hz
          go_wp2_with fail
          have s5 := fun u => OR.out.stored i u
          go_roundw
          case rel => exact ⟨i + 1, _, by go_num, by omega, hd (s5 _).1, hd (UR.out.put i _), hd (AS.out.step (s5 _).2 (fun g hg => .inl hg.symm))⟩
          case measure => simp [intOf]; omega
        · have hltd : decide ((i : Int) < (M : Int)) = false := by simp; omega
          obtain ⟨W3, hW3⟩ : ∃ W2, W2 = wr := ⟨_, rfl⟩
          subst hW3
          clear OR UR
          go_wp2_with fail
          clear hlt hltd hi
          clear OV
          have bW2 : Below w.heap.size w W2 := AR.out.below bW (fun k hk => by cases hk; exact LL.out.own.1) (fun k hk => by cases hk)
          have bW3 : Below w.heap.size w W3 := AS.out.below bW2 (fun k hk => by cases hk; exact LL.out.own.2.1) (fun k hk => by cases hk)
          have S13 : Hid (W.heap.size ≤ W3.heap.size) := hd (Nat.le_trans AR.out.size AS.out.size)
          replace OX := hd (owns_apart (owns_apart OX.out AR.out (fun k hk => ⟨fun e => (LL.out.x k hk).2.2.1 (Option.some.inj e), fun e => by cases e⟩)) AS.out (fun k hk => ⟨fun e => (LL.out.x k hk).2.2.2 (Option.some.inj e), fun e => by cases e⟩))
          replace OY := hd (owns_apart (owns_apart OY.out AR.out (fun k hk => ⟨fun e => (LL.out.y k hk).2.1 (Option.some.inj e), fun e => by cases e⟩)) AS.out (fun k hk => ⟨fun e => (LL.out.y k hk).2.2.1 (Option.some.inj e), fun e => by cases e⟩))
          replace OP := hd (owns_apart (owns_apart OP.out AR.out (fun k hk => ⟨fun e => (LL.out.p k hk).2.2.1 (Option.some.inj e), fun e => by cases e⟩)) AS.out (fun k hk => ⟨fun e => (LL.out.p k hk).2.2.2.1 (Option.some.inj e), fun e => by cases e⟩))
          replace OQ := hd (owns_apart (owns_apart OQ.out AR.out (fun k hk => ⟨fun e => (LL.out.q k hk).2.1 (Option.some.inj e), fun e => by cases e⟩)) AS.out (fun k hk => ⟨fun e => (LL.out.q k hk).2.2.1 (Option.some.inj e), fun e => by cases e⟩))
          clear AR AS bW2 OW bWs
          have hre := rencode_one a N L W3 (HP.out.kept bW3)
          simp only [hNd.out, hX.out, hNX.out] at hre
          refine hre.mono ?_
          rintro e w12 ⟨rz, cz, EZ, AZ, rfl, oz, b12⟩
          have bw12 := bW3.trans (b12.mono bW3.size)
          replace OX := hd (owns_below OX.out b12)
          replace OY := hd (owns_below OY.out b12)
          replace OP := hd (owns_below OP.out b12)
          replace OQ := hd (owns_below OQ.out b12)
          have IZ : Hid (∀ k, (Value.slice rz NX cz).ownBlock = some k → W.heap.size ≤ k) := hd (fun k hk => Nat.le_trans S13.out (oz.lt k hk).1)
          have OZ := hd (owns_mono oz bW3.size)
          have S12 : Hid (W.heap.size ≤ w12.heap.size) := hd (Nat.le_trans S13.out b12.size)
          clear hre b12 oz S13
          have hrd := rdecode_any a2 M Bs w12 (HB.out.kept bw12) Hb.out (by rw [hMd.out]; exact Nat.le_refl _)
          simp only [hMd.out] at hrd
          go_wp2_with fail
          refine hrd.mono ?_
          intro e w13 h13
          replace h13 := decPost_one h13
          simp only [hQ.out, hNQ.out] at h13
          obtain ⟨rr, cr, ER, AR, rfl, orr, b13⟩ := h13
          have bw13 := bw12.trans (b13.mono bw12.size)
          replace OX := hd (owns_below OX.out b13)
          replace OY := hd (owns_below OY.out b13)
          replace OP := hd (owns_below OP.out b13)
          replace OQ := hd (owns_below OQ.out b13)
          replace OZ := hd (owns_below OZ.out b13)
          have IR : Hid (∀ k, (Value.slice rr NQ cr).ownBlock = some k → W.heap.size ≤ k) := hd (fun k hk => Nat.le_trans S12.out (orr.lt k hk).1)
          have OR := hd (owns_mono orr bw12.size)
          have S14 : Hid (W.heap.size ≤ w13.heap.size) := hd (Nat.le_trans S12.out b13.size)
          clear hrd b13 orr S12 bw12 bW3
          have sx := row_string OX.out HXb.out
          have sy := row_string OY.out HXb.out
          have sz := row_string OZ.out HXb.out
          have hs1 := same_yes rp rr cp cr Q w13 (by rw [hNQ.out]; omega) (row_prog OP.out).1 (row_prog OR.out).1
          have hs2 := fun n => same_yes rq rr cq cr Q (w13.drewN n) (by rw [hNQ.out]; omega) (row_prog (owns_drewN OQ.out n)).1 (row_prog (owns_drewN OR.out n)).1
          simp only [hNQ.out] at hs1 hs2
          obtain ⟨SX, hSX⟩ : ∃ S, Hid (S = (toU X).toArray) := ⟨_, rfl⟩
          rw [← hSX.out] at sx sy sz
          go_wp2_with fail
          refine hs1.mono ?_
          rintro e w14 ⟨rfl, n2, rfl⟩
          replace hs2 := hs2 n2
          obtain ⟨W4, hW4⟩ : ∃ W, Hid (W = w13.drewN n2) := ⟨_, rfl⟩
          rw [← hW4.out] at hs2 ⊢
          clear hs1 sx sy sz
          go_wp2_with fail
          refine hs2.mono ?_
          rintro e w15 ⟨rfl, n3, rfl⟩
          obtain ⟨W5, hW5⟩ : ∃ W, Hid (W = W4.drewN n3) := ⟨_, rfl⟩
          have e5 : W5 = w13.drewN (n2 + n3) := by rw [hW5.out, hW4.out, drewN_add]
          have bW5 : Below w.heap.size w W5 := by rw [e5]; exact below_drewN bw13 _
          replace OX : Hid (W5.ownsRow _ _ _ _ _ _) := hd (by rw [e5]; exact owns_drewN OX.out _)
          replace OY : Hid (W5.ownsRow _ _ _ _ _ _) := hd (by rw [e5]; exact owns_drewN OY.out _)
          replace OP : Hid (W5.ownsRow _ _ _ _ _ _) := hd (by rw [e5]; exact owns_drewN OP.out _)
          replace OQ : Hid (W5.ownsRow _ _ _ _ _ _) := hd (by rw [e5]; exact owns_drewN OQ.out _)
          replace OZ : Hid (W5.ownsRow _ _ _ _ _ _) := hd (by rw [e5]; exact owns_drewN OZ.out _)
          replace OR : Hid (W5.ownsRow _ _ _ _ _ _) := hd (by rw [e5]; exact owns_drewN OR.out _)
          have S5 : Hid (W.heap.size ≤ W5.heap.size) := hd (by rw [e5]; exact S14.out)
          rw [← hW5.out]
          clear e5 hW5 hW4 S14 hs2 bw13
          obtain ⟨bx, hbx⟩ : ∃ b, Hid ((Value.slice rx NX cx).ownBlock = b) := ⟨_, rfl⟩
          obtain ⟨bp, hbp⟩ : ∃ b, Hid ((Value.slice rp NQ cp).ownBlock = b) := ⟨_, rfl⟩
          go_wp2_with fail
          go_loopw [27, 148] (fun _ v148 wr => ∃ (i : Nat) (xs : List Value), v148 = .int .i64 i ∧ i ≤ NX ∧ Hid (wr.ownsRow w.heap.size 5 1 (.slice rx NX cx) NX xs) ∧ Hid (Apart W5 wr bx none)) (fun _ v148 _ => NX - (intOf v148).toNat)
          case atStart => exact ⟨0, _, rfl, Nat.zero_le _, OX, hd (Apart.refl _ _ _)⟩
          case round =>
            obtain ⟨i, xs, rfl, hi, OF, AF⟩ := hrel
            by_cases hlt : i < NX
            · have hlt' : (i : Int) < (NX : Int) := by omega
              obtain ⟨g, c', e⟩ := own_form OF.out (by omega)
              simp only [Value.slice.injEq] at e
              obtain ⟨rfl, -, rfl⟩ := e
              have hxl := OF.out.1
              have key : ∃ u, wr.cell? ⟨g, i, none⟩ = some u := ⟨xs[i]'(by omega), by rw [OF.out.cellAt _ (by omega), List.getElem?_eq_getElem (by omega)]⟩
              obtain ⟨u0, c0⟩ := key
              have f0 := OF.out.frozenAt i
              clear hxl
              go_wp2_with fail
              have s5 := fun u => OF.out.stored i u
              go_roundw
              case rel => exact ⟨i + 1, _, by go_num, by omega, hd (s5 _).1, hd (AF.out.step (s5 _).2 (fun k hk => .inl (by rw [← hbx.out, ← hk]; rfl)))⟩
              case measure => simp [intOf]; omega
            · have hltd : decide ((i : Int) < (NX : Int)) = false := by simp; omega
              obtain ⟨W6, hW6⟩ : ∃ W2, W2 = wr := ⟨_, rfl⟩
              subst hW6
              go_wp2_with fail
              clear hlt hltd hi OX
              replace OP := hd (owns_apart OP.out AF.out (fun k hk => ⟨fun e => by rw [← hbx.out] at e; exact (LL.out.p k hk).2.2.2.2 e, fun e => by cases e⟩))
              go_loopw [28, 157] (fun _ v157 wr => ∃ (i : Nat) (xs : List Value), v157 = .int .i64 i ∧ i ≤ NQ ∧ Hid (wr.ownsRow w.heap.size 27 5 (.slice rp NQ cp) NQ xs) ∧ Hid (Apart W6 wr bp none)) (fun _ v157 _ => NQ - (intOf v157).toNat)
              case atStart => exact ⟨0, _, rfl, Nat.zero_le _, OP, hd (Apart.refl _ _ _)⟩
              case round =>
                obtain ⟨i, ys, rfl, hi, OG, AG⟩ := hrel
                by_cases hlt : i < NQ
                · have hlt' : (i : Int) < (NQ : Int) := by omega
                  obtain ⟨g, c', e⟩ := own_form OG.out (by omega)
                  simp only [Value.slice.injEq] at e
                  obtain ⟨rfl, -, rfl⟩ := e
                  have hxl := OG.out.1
                  have key : ∀ r, r < 5 → ∃ u, wr.cell? ⟨g, i * 5 + r, none⟩ = some u := fun r hr => ⟨ys[i * 5 + r]'(by omega), by rw [OG.out.cellAt _ (by omega), List.getElem?_eq_getElem (by omega)]⟩
                  obtain ⟨u0, c0⟩ := key 0 (by omega)
                  obtain ⟨u1, c1⟩ := key 1 (by omega)
                  obtain ⟨u2, c2⟩ := key 2 (by omega)
                  obtain ⟨u3, c3⟩ := key 3 (by omega)
                  obtain ⟨u4, c4⟩ := key 4 (by omega)
                  have f0 := OG.out.frozenAt (i * 5)
                  have f1 := OG.out.frozenAt (i * 5 + 1)
                  have f2 := OG.out.frozenAt (i * 5 + 2)
                  have f3 := OG.out.frozenAt (i * 5 + 3)
                  have f4 := OG.out.frozenAt (i * 5 + 4)
                  rw [Nat.add_zero] at c0
                  clear key hxl
                  go_wp2_with fail
                  have s5 := stored5 OG.out (i * 5) ⟨99, 0, 0, 0, 0⟩
                  go_roundw
                  case rel => exact ⟨i + 1, _, by go_num, by omega, hd s5.1, hd (AG.out.step s5.2 (fun k hk => .inl (by rw [← hbp.out, ← hk]; rfl)))⟩
                  case measure => simp [intOf]; omega
                · have hltd : decide ((i : Int) < (NQ : Int)) = false := by simp; omega
                  obtain ⟨W7, hW7⟩ : ∃ W2, W2 = wr := ⟨_, rfl⟩
                  subst hW7
                  go_wp2_with fail
                  clear hlt hltd hi OP
                  have dX : ∀ k, (Value.slice rx NX cx).ownBlock = some k → (Value.slice rp NQ cp).ownBlock ≠ some k := fun k hk e => (LL.out.p k e).2.2.2.2 hk.symm
                  replace OF := hd (owns_apart OF.out AG.out (fun k hk => ⟨fun e => by rw [← hbp.out] at e; exact dX k hk e.symm, fun e => by cases e⟩))
                  have GG : Hid (Grow w W7 W7 bx bp (.slice rx NX cx) NX (.slice rp NQ cp) NQ) := hd ⟨⟨_, OF.out⟩, ⟨_, OG.out⟩, Apart.refl _ _ _, fun k hk => .inl (by rw [← hbx.out, hk]), fun k hk => .inr (.inl (by rw [← hbp.out, hk])), dX⟩
                  have bxw : ∀ k, bx = some k → w.heap.size ≤ k := fun k hk => (LL.out.x k (hbx.out.trans hk)).1
                  have bpw : ∀ k, bp = some k → w.heap.size ≤ k := fun k hk => (LL.out.p k (hbp.out.trans hk)).1
                  have bW6 : Below w.heap.size w W6 := AF.out.below bW5 bxw (fun k hk => by cases hk)
                  have bW7 : Below w.heap.size w W7 := AG.out.below bW6 bpw (fun k hk => by cases hk)
                  have ky : ∀ k, (Value.slice ry NX cy).ownBlock = some k → some k ≠ bx ∧ some k ≠ bp := fun k hk => by
                    have := (LL.out.y k hk).2.2.2
                    rw [hbx.out, hbp.out] at this
                    exact this
                  have kq : ∀ k, (Value.slice rq NQ cq).ownBlock = some k → some k ≠ bx ∧ some k ≠ bp := fun k hk => by
                    have := (LL.out.q k hk).2.2.2
                    rw [hbx.out, hbp.out] at this
                    exact this
                  have far : ∀ k, W.heap.size ≤ k → some k ≠ bx ∧ some k ≠ bp := fun k hk => ⟨fun e => by have := (LL.out.x k (hbx.out.trans e.symm)).2.1; omega, fun e => by have := (LL.out.p k (hbp.out.trans e.symm)).2.1; omega⟩
                  have kz : ∀ k, (Value.slice rz NX cz).ownBlock = some k → some k ≠ bx ∧ some k ≠ bp := fun k hk => far k (IZ.out k hk)
                  have kr : ∀ k, (Value.slice rr NQ cr).ownBlock = some k → some k ≠ bx ∧ some k ≠ bp := fun k hk => far k (IR.out k hk)
                  replace OY := hd (owns_apart (owns_apart OY.out AF.out (fun k hk => ⟨(ky k hk).1, fun e => by cases e⟩)) AG.out (fun k hk => ⟨(ky k hk).2, fun e => by cases e⟩))
                  replace OQ := hd (owns_apart (owns_apart OQ.out AF.out (fun k hk => ⟨(kq k hk).1, fun e => by cases e⟩)) AG.out (fun k hk => ⟨(kq k hk).2, fun e => by cases e⟩))
                  replace OZ := hd (owns_apart (owns_apart OZ.out AF.out (fun k hk => ⟨(kz k hk).1, fun e => by cases e⟩)) AG.out (fun k hk => ⟨(kz k hk).2, fun e => by cases e⟩))
                  replace OR := hd (owns_apart (owns_apart OR.out AF.out (fun k hk => ⟨(kr k hk).1, fun e => by cases e⟩)) AG.out (fun k hk => ⟨(kr k hk).2, fun e => by cases e⟩))
                  have KY := hd ky
                  have KQ := hd kq
                  have KZ := hd kz
                  have KR := hd kr
                  have BX := hd bxw
                  have BP := hd bpw
                  clear ky kq kz kr far dX OF OG AF AG bW5 bW6 bxw bpw LL IZ IR S5
                  obtain ⟨i8, hi8, hy0, hy1, hy2⟩ := info_parts info_u8
                  obtain ⟨i0, hi0, hz0, hz1, hz2⟩ := info_parts info_ins
                  have s7 := bW7.size
                  go_loopw [7, 13, 165] (fun v7 v13 v165 wr => ∃ (i c d : Nat) (ra rb : Option Addr), v165 = .int .i64 i ∧ i ≤ 40 ∧ v7 = .slice ra (NX + i) c ∧ v13 = .slice rb (NQ + i) d ∧ Hid (Grow w W7 wr bx bp (.slice ra (NX + i) c) (NX + i) (.slice rb (NQ + i) d) (NQ + i))) (fun _ _ v165 _ => 40 - (intOf v165).toNat)
                  case atStart => exact ⟨0, _, _, _, _, rfl, by omega, rfl, rfl, GG⟩
                  case round =>
                    obtain ⟨i, c, d, ra, rb, rfl, hi, rfl, rfl, GR⟩ := hrel
                    by_cases hlt : i < 40
                    · have hlt' : (i : Int) < 40 := by omega
                      obtain ⟨xs1, oa⟩ := GR.out.oa
                      have sr := Nat.le_trans s7 GR.out.ap.size
                      go_wp2_with (first
                        | (at_builtin; refine wpList_append_lies _ rfl _ _ 23 rfl w.heap.size 5 i8 (.int .u8 0) 1 1 Tryd.underlying23 hi8 hy0 hy1 hy2 rfl (by decide) (.slice ra (NX + i) c) _ _ rfl (oa.alloc _) ⟨_, 0, none⟩ 1 1 [.int .u8 8] rfl rfl (cells_new [.int .u8 8] _ (by simp)) (by simp [Value.oneCell']) (by decide) (by unfold maxLen; omega) (by omega) (by simp; omega) _ rfl ?_
                           intro g3 c3 w3' o3 gr3 li3 lt3
                           have G1 := hd (GR.out.left o3 gr3 li3)
                           obtain ⟨ys1, ob⟩ := G1.out.ob
                           have sr1 := Nat.le_trans s7 G1.out.ap.size
                           clear o3 gr3 li3 lt3 oa)
                        | (at_builtin; refine wpList_append_lies _ rfl _ _ 22 rfl w.heap.size 27 i0 (.agg #[.int .i64 0, .int .i64 0, .int .i64 0, .int .i64 0, .int .i64 0]) 5 40 Tryd.underlying22 hi0 hz0 hz1 hz2 rfl (by decide) (.slice rb (NQ + i) d) _ _ rfl (ob.alloc _) ⟨_, 0, none⟩ 1 1 (insCells ⟨98, 0, 0, 0, 0⟩) rfl rfl (cells_new (insCells ⟨98, 0, 0, 0, 0⟩) _ (by simp)) (by simp [insCells, Value.oneCell']) (by decide) (by unfold maxLen; omega) (by omega) (by simp; omega) _ rfl ?_
                           intro g4 c4 w4' o4 gr4 li4 lt4
                           have G2 := hd (G1.out.right o4 gr4 li4)
                           clear o4 gr4 li4 lt4 ob))
                      go_roundw
                      case rel => exact ⟨i + 1, c3, c4, _, _, by go_num, by omega, rfl, rfl, G2⟩
                      case measure => simp [intOf]; omega
                    · obtain rfl : i = 40 := by omega
                      have ap := GR.out.ap
                      obtain ⟨W8, hW8⟩ : ∃ W2, W2 = wr := ⟨_, rfl⟩
                      subst hW8
                      have bW8 : Below w.heap.size w W8 := ap.below bW7 BX.out BP.out
                      replace OY := hd (owns_apart OY.out ap KY.out)
                      replace OQ := hd (owns_apart OQ.out ap KQ.out)
                      replace OZ := hd (owns_apart OZ.out ap KZ.out)
                      replace OR := hd (owns_apart OR.out ap KR.out)
                      have sy := row_string OY.out HXb.out
                      have sz := row_string OZ.out HXb.out
                      have hs2 := same_yes rq rr cq cr Q W8 (by rw [hNQ.out]; omega) (row_prog OQ.out).1 (row_prog OR.out).1
                      simp only [hNQ.out] at hs2
                      rw [← hSX.out] at sy sz
                      clear OY OQ OZ OR ap GR GG KY KQ KZ KR
                      go_wp2_with fail
                      refine hs2.mono ?_
                      rintro e w15 ⟨rfl, n5, rfl⟩
                      go_wp2_with fail
                      go_ret
                      exact ⟨rfl, below_drewN bW8 n5⟩
end Go.Proofs.YtngihjmhedkanabDoor
