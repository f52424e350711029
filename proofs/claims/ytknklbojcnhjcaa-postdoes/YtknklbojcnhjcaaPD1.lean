/- The law's same and spoil. -/
import Derived.Test.YtknklbojcnhjcaaPR5
import Derived.Test.YtknklbojcnhjcaaLR6
namespace Go.Proofs.Ytknklbojcnhjcaa
open Go.RowKit

/-- Two lists of lanes that tell the same. -/
def Eqv (l m : List TLn) : Prop := l.length = m.length ∧ ∀ i, i < l.length → (tAt m i).vs = (tAt l i).vs ∧ (tAt m i).ws = (tAt l i).ws ∧ (tAt m i).tk = (tAt l i).tk ∧ (tAt m i).dr = (tAt l i).dr
/-- Their lists are of a length that may be. -/
def LenT (l : List TLn) : Prop := ∀ t ∈ l, t.vs.length ≤ 7000000000000 ∧ t.ws.length ≤ 7000000000000

set_option maxRecDepth 100000 in
set_option maxHeartbeats 2000000 in
theorem psame_any {a d : Option Addr} {c e : Nat} {l m : List TLn} {w : World} (hA : ALs w a l) (hD : ALs w d m) (hE : Eqv l m) (hl : l.length ≤ 1000000) (hL : LenT l) :
    Calls Try.prog 10 #[.slice a l.length c, .slice d m.length e] w fun E w' => E = .returned (.bool true) ∧ Below w.heap.size w w' := by
  rw [← hE.1]
  have HA := hd hA
  have HD := hd hD
  have HE := hd hE
  have HL := hd hL
  obtain ⟨n, hnn⟩ : ∃ n, Hid (l.length = n) := ⟨_, rfl⟩
  rw [hnn.out] at hl ⊢
  clear hA hD hE hL
  go_enter Try.func10, Try.ntmps10
  go_wp2_with fail
  go_loopg [5, 6] n (fun k v5 v6 wr => ∃ i : Nat, v6 = .int .i64 (i : Int) ∧ v5 = .bool true ∧ i + k = n ∧ Hid (Below w.heap.size w wr))
  case atStart => exact ⟨0, rfl, by first | rfl | simp, by omega, hd (below_same w)⟩
  case round =>
    obtain ⟨i, rfl, rfl, hik, HH⟩ := hrel
    by_cases hlt : i < n
    · have hlt' : (i : Int) < (n : Int) := by omega
      have hil : i < l.length := by rw [hnn.out]; exact hlt
      have him : i < m.length := by rw [← HE.out.1]; exact hil
      have hbw := HH.out
      obtain ⟨ba, oa, rfl, p0, p1, p2, p3⟩ := (HA.out.below hbw).at i hil
      obtain ⟨bd, od, rfl, q0, q1, q2, q3⟩ := (HD.out.below hbw).at i him
      obtain ⟨f1, f2, f3, f4⟩ := HE.out.2 i hil
      have hAL := fun (W : World) (hb : Below w.heap.size w W) => (HA.out.below hb).el _ (tAt_mem hil)
      have hDL := fun (W : World) (hb : Below w.heap.size w W) => (HD.out.below hb).el _ (tAt_mem him)
      rw [f1, f2] at hDL
      rw [f1] at q0
      rw [f2] at q1
      rw [f3] at q2
      rw [f4] at q3
      have hlen := HL.out _ (tAt_mem hil)
      obtain ⟨t, ht⟩ : ∃ t, Hid (tAt l i = t) := ⟨_, rfl⟩
      obtain ⟨u, hu⟩ : ∃ u, Hid (tAt m i = u) := ⟨_, rfl⟩
      rw [ht.out] at p0 p1 p2 p3 q0 q1 q2 q3 hAL hDL hlen
      rw [hu.out] at q0 q1 hDL
      have hsm := fun (W : World) (hb : Below w.heap.size w W) => same_any (tk := t.tk) (dr := t.dr) (c1 := t.c1) (c2 := t.c2) (e1 := u.c1) (e2 := u.c2) (hAL W hb) (hDL W hb) (by omega) (by omega)
      obtain ⟨vn, hvn⟩ : ∃ vn, Hid (t.vs.length = vn) := ⟨_, rfl⟩
      obtain ⟨wn, hwn⟩ : ∃ wn, Hid (t.ws.length = wn) := ⟨_, rfl⟩
      rw [hvn.out] at p0 q0 hsm
      rw [hwn.out] at p1 q1 hsm
      have hs1 := hsm wr.drew hbw.drew
      have HBW := hd hbw
      have HLT1 : Hid (ba < wr.heap.size ∧ bd < wr.heap.size) := hd ⟨World.block_lt_of_cell? wr _ p0, World.block_lt_of_cell? wr _ q0⟩
      clear f1 f2 f3 f4 hAL hDL hlen hsm hbw
      go_upto_region 5 with fail
      go_region_held3 (fun w' => (w'.cell? ⟨ba, oa + i * 4, none⟩ = some (.slice t.a1 vn t.c1) ∧ w'.cell? ⟨ba, oa + i * 4 + 1, none⟩ = some (.slice t.a2 wn t.c2) ∧ w'.cell? ⟨ba, oa + i * 4 + 2, none⟩ = some (.int .i64 t.tk) ∧ w'.cell? ⟨ba, oa + i * 4 + 3, none⟩ = some (.int .i64 t.dr)) ∧ w'.cell? ⟨bd, od + i * 4, none⟩ = some (.slice u.a1 vn u.c1) ∧ w'.cell? ⟨bd, od + i * 4 + 1, none⟩ = some (.slice u.a2 wn u.c2) ∧ w'.cell? ⟨bd, od + i * 4 + 2, none⟩ = some (.int .i64 t.tk) ∧ w'.cell? ⟨bd, od + i * 4 + 3, none⟩ = some (.int .i64 t.dr)) (go_keep)
        (first
          | (go_at_call 23; refine hs1.mono ?_; rintro e2 w2 ⟨rfl, b2⟩
             have HB2 := hd (HBW.out.drew.trans (b2.mono HBW.out.size))
             have hc : ∀ p : Addr, p.block < wr.heap.size → w2.cell? p = wr.cell? p := fun p hp => b2.cell (p := p) hp
             have r0 := (hc ⟨ba, oa + i * 4, none⟩ HLT1.out.1).trans p0
             have r1 := (hc ⟨ba, oa + i * 4 + 1, none⟩ HLT1.out.1).trans p1
             have r2 := (hc ⟨ba, oa + i * 4 + 2, none⟩ HLT1.out.1).trans p2
             have r3 := (hc ⟨ba, oa + i * 4 + 3, none⟩ HLT1.out.1).trans p3
             have s0 := (hc ⟨bd, od + i * 4, none⟩ HLT1.out.2).trans q0
             have s1 := (hc ⟨bd, od + i * 4 + 1, none⟩ HLT1.out.2).trans q1
             have s2 := (hc ⟨bd, od + i * 4 + 2, none⟩ HLT1.out.2).trans q2
             have s3 := (hc ⟨bd, od + i * 4 + 3, none⟩ HLT1.out.2).trans q3
             clear b2 hc))
      go_wp2_with fail
      go_roundg (gk - 1)
      case measure => omega
      case rel => exact ⟨i + 1, by go_num, rfl, by omega, HB2⟩
    · have hltd : decide ((i : Int) < (n : Int)) = false := by simp; omega
      have hle : (n : Int) ≤ (i : Int) := by omega
      go_wp2_with fail
      go_ret
      exact ⟨rfl, HH.out⟩

/-- Two rows that are being written over. -/
structure Sp (w0 w : World) (S : Nat → Prop) (a1 : Option Addr) (n c1 : Nat) (a2 : Option Addr) (m c2 : Nat) : Prop where
  r1 : ∃ xs, Row w 2 1 a1 n c1 xs
  r2 : ∃ xs, Row w 52 2 a2 m c2 xs
  ne : ∀ k, blk a2 = some k → blk a1 ≠ some k
  mod : Mod S w0 w
  i1 : ∀ k, blk a1 = some k → S k ∨ w0.heap.size ≤ k
  i2 : ∀ k, blk a2 = some k → S k ∨ w0.heap.size ≤ k

section
variable {w0 w w' : World} {S : Nat → Prop} {a1 a2 : Option Addr} {n c1 m c2 : Nat}
theorem Sp.bel (h : Sp w0 w S a1 n c1 a2 m c2) (hb : Below w.heap.size w w') : Sp w0 w' S a1 n c1 a2 m c2 := by
  obtain ⟨xs, h1⟩ := h.r1
  obtain ⟨ys, h2⟩ := h.r2
  exact ⟨⟨xs, h1.below hb⟩, ⟨ys, h2.below hb⟩, h.ne, h.mod.after hb, h.i1, h.i2⟩
theorem Sp.put1 {g : Nat} (h : Sp w0 w S (some ⟨g, 0, none⟩) n c1 a2 m c2) (j : Nat) (u : Value) : Sp w0 (w.setCell ⟨g, j, none⟩ u) S (some ⟨g, 0, none⟩) n c1 a2 m c2 := by
  obtain ⟨xs, h1⟩ := h.r1
  obtain ⟨ys, h2⟩ := h.r2
  exact ⟨⟨_, h1.put j u⟩, ⟨ys, h2.kept (fun k hk => Below.heap_setCell _ _ _ _ (fun e => h.ne k hk (by rw [show k = g from e]; rfl)))⟩, h.ne, h.mod.setCell (h.i1 g rfl) u, h.i1, h.i2⟩
theorem Sp.put2 {g : Nat} (h : Sp w0 w S a1 n c1 (some ⟨g, 0, none⟩) m c2) (j : Nat) (u : Value) : Sp w0 (w.setCell ⟨g, j, none⟩ u) S a1 n c1 (some ⟨g, 0, none⟩) m c2 := by
  obtain ⟨xs, h1⟩ := h.r1
  obtain ⟨ys, h2⟩ := h.r2
  exact ⟨⟨xs, h1.kept (fun k hk => Below.heap_setCell _ _ _ _ (fun e => h.ne g rfl (by rw [← show k = g from e]; exact hk)))⟩, ⟨_, h2.put j u⟩, h.ne, h.mod.setCell (h.i2 g rfl) u, h.i1, h.i2⟩
/-- Behind an append to the first one. -/
theorem Sp.app1 (h : Sp w0 w S a1 n c1 a2 m c2) {a : Option Addr} {k' c' : Nat} {xs : List Value} (hR : Row w' 2 1 a k' c' xs) (hm : Mod (fun k => blk a1 = some k) w w') (hn : ∀ k, blk a = some k → blk a1 = some k ∨ w.heap.size ≤ k) : Sp w0 w' S a k' c' a2 m c2 := by
  obtain ⟨ys, h2⟩ := h.r2
  refine ⟨⟨xs, hR⟩, ⟨ys, h2.mod hm (fun k hk => h.ne k hk)⟩, fun k hk e => ?_, h.mod.trans hm h.i1, fun k hk => ?_, h.i2⟩
  · rcases hn k e with h1 | h1
    · exact h.ne k hk h1
    · have := h2.lt k hk; omega
  · rcases hn k hk with h1 | h1
    · exact h.i1 k h1
    · exact .inr (Nat.le_trans h.mod.size h1)
theorem Sp.app2 (h : Sp w0 w S a1 n c1 a2 m c2) {a : Option Addr} {k' c' : Nat} {xs : List Value} (hR : Row w' 52 2 a k' c' xs) (hm : Mod (fun k => blk a2 = some k) w w') (hn : ∀ k, blk a = some k → blk a2 = some k ∨ w.heap.size ≤ k) : Sp w0 w' S a1 n c1 a k' c' := by
  obtain ⟨ys, h2⟩ := h.r1
  refine ⟨⟨ys, h2.mod hm (fun k hk e => h.ne k e hk)⟩, ⟨xs, hR⟩, fun k hk e => ?_, h.mod.trans hm h.i2, h.i1, fun k hk => ?_⟩
  · rcases hn k hk with h1 | h1
    · exact h.ne k h1 e
    · have := h2.lt k e; omega
  · rcases hn k hk with h1 | h1
    · exact h.i2 k h1
    · exact .inr (Nat.le_trans h.mod.size h1)
end


/-- A list of lanes of one's own, from B on. -/
structure TlIn (B : Nat) (w : World) (a : Option Addr) (c : Nat) (l : List TLn) : Prop where
  row : Row w 29 4 a l.length c (tlC l)
  at' : TlAt B w l
  ge : ∀ k, blk a = some k → B ≤ k ∧ ∀ i, i < l.length → ¬ tb (tAt l i) k
/-- Its blocks. -/
def tlf (a : Option Addr) (l : List TLn) (k : Nat) : Prop := blk a = some k ∨ ∃ i, i < l.length ∧ tb (tAt l i) k
section
variable {B : Nat} {w w' : World} {a : Option Addr} {c : Nat} {l : List TLn}
theorem TlOut.in (h : TlOut w w' a c l) : TlIn w.heap.size w' a c l := ⟨h.row, h.at', h.ge⟩
theorem TlIn.lt (h : TlIn B w a c l) : ∀ k, tlf a l k → k < w.heap.size := fun k hk => by
  rcases hk with hk | ⟨i, hi, hk⟩
  · exact h.row.lt k hk
  · exact h.at'.lt i hi k hk
theorem TlIn.from (h : TlIn B w a c l) : ∀ k, tlf a l k → B ≤ k := fun k hk => by
  rcases hk with hk | ⟨i, hi, hk⟩
  · exact (h.ge k hk).1
  · exact h.at'.ge i hi k hk
theorem TlIn.mod {S : Nat → Prop} (h : TlIn B w a c l) (hm : Mod S w w') (hn : ∀ k, tlf a l k → ¬ S k) : TlIn B w' a c l :=
  ⟨h.row.mod hm (fun k hk => hn k (.inl hk)), h.at'.mod hm (fun i hi k hk => hn k (.inr ⟨i, hi, hk⟩)), h.ge⟩
theorem TlIn.below (h : TlIn B w a c l) (hb : Below w.heap.size w w') : TlIn B w' a c l := h.mod (Mod.of_below (fun _ => False) hb) (fun _ _ h => h)
theorem TlIn.als (h : TlIn B w a c l) : ALs w a l := ⟨h.row.rd, h.at'.al⟩
end

theorem infoAs : (Try.prog.info? 29).map (·.size) = some 4 := by kernel_rfl

/-- A list of lanes that is being written over: the first i of them are. -/
structure SpI (w wr : World) (a : Option Addr) (c : Nat) (l : List TLn) (i : Nat) : Prop where
  row : ∃ xs, Row wr 29 4 a l.length c xs ∧ ∀ j, i * 4 ≤ j → xs[j]? = (tlC l)[j]?
  r1 : ∀ j, i ≤ j → j < l.length → Row wr 2 1 (tAt l j).a1 (tAt l j).vs.length (tAt l j).c1 (iC (tAt l j).vs)
  r2 : ∀ j, i ≤ j → j < l.length → Row wr 52 2 (tAt l j).a2 (tAt l j).ws.length (tAt l j).c2 (wC (tAt l j).ws)
  mod : Mod (tlf a l) w wr
theorem SpI.next {B : Nat} {w wr w1 : World} {g c : Nat} {l : List TLn} {i : Nat} (h0 : TlIn B w (some ⟨g, 0, none⟩) c l) (h : SpI w wr (some ⟨g, 0, none⟩) c l i) (hi : i < l.length) (hm : Mod (tb (tAt l i)) wr w1) (v0 v1 v2 v3 : Value) :
    SpI w ((((w1.setCell ⟨g, i * 4, none⟩ v0).setCell ⟨g, i * 4 + 1, none⟩ v1).setCell ⟨g, i * 4 + 2, none⟩ v2).setCell ⟨g, i * 4 + 3, none⟩ v3) (some ⟨g, 0, none⟩) c l (i + 1) := by
  obtain ⟨xs, hR, hxs⟩ := h.row
  have hk' : ∀ k, k ≠ g → ((((w1.setCell ⟨g, i * 4, none⟩ v0).setCell ⟨g, i * 4 + 1, none⟩ v1).setCell ⟨g, i * 4 + 2, none⟩ v2).setCell ⟨g, i * 4 + 3, none⟩ v3).heap[k]? = w1.heap[k]? := fun k hk => by
    rw [Below.heap_setCell _ _ _ _ hk, Below.heap_setCell _ _ _ _ hk, Below.heap_setCell _ _ _ _ hk, Below.heap_setCell _ _ _ _ hk]
  have hg := (h0.ge g rfl).2
  have hR1 := hR.mod hm (fun k hk => by cases hk; exact hg i hi)
  refine ⟨⟨_, (((hR1.put (i * 4) v0).put (i * 4 + 1) v1).put (i * 4 + 2) v2).put (i * 4 + 3) v3, fun j hj => ?_⟩, fun j hj hjl => ?_, fun j hj hjl => ?_, ?_⟩
  · rw [List.getElem?_set_ne (by omega), List.getElem?_set_ne (by omega), List.getElem?_set_ne (by omega), List.getElem?_set_ne (by omega)]
    exact hxs j (by omega)
  · exact ((h.r1 j (by omega) hjl).mod hm (fun k hk e => h0.at'.ap j i hjl hi (by omega) k (.inl hk) e)).kept (fun k hk => hk' k (fun e => hg j hjl (.inl (e ▸ hk))))
  · exact ((h.r2 j (by omega) hjl).mod hm (fun k hk e => h0.at'.ap j i hjl hi (by omega) k (.inr hk) e)).kept (fun k hk => hk' k (fun e => hg j hjl (.inr (e ▸ hk))))
  · have hin : tlf (some ⟨g, 0, none⟩) l g := .inl rfl
    exact ((((h.mod.trans hm (fun k hk => .inl (.inr ⟨i, hi, hk⟩))).setCell (p := ⟨g, i * 4, none⟩) (.inl hin) v0).setCell (p := ⟨g, i * 4 + 1, none⟩) (.inl hin) v1).setCell (p := ⟨g, i * 4 + 2, none⟩) (.inl hin) v2).setCell (p := ⟨g, i * 4 + 3, none⟩) (.inl hin) v3
end Go.Proofs.Ytknklbojcnhjcaa
