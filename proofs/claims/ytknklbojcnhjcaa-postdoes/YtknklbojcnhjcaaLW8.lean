/- Take. -/
import Derived.Test.YtknklbojcnhjcaaLW7
import Derived.Deep.RegionLaw
namespace Go.Proofs.Ytknklbojcnhjcaa
open Go.RowKit

def tkV (t : Int × (Int × Int) × Bool × Int) : Value := .tuple #[.int .i64 t.1, .agg #[.int .i64 t.2.1.1, .int .i64 t.2.1.2], .bool t.2.2.1, .int .i64 t.2.2.2]

theorem LnAt.other {w : World} {T : TypeId} {b : Nat} {s : LS} {a1 a2 : Option Addr} {c1 c2 : Nat} (h : LnAt w T b s a1 c1 a2 c2) {g : Nat} (hg : ¬ fp b a1 a2 g) (i : Nat) (u : Value) : LnAt (w.setCell ⟨g, i, none⟩ u) T b s a1 c1 a2 c2 :=
  h.kept fun k hk => Below.heap_setCell _ _ _ _ (fun e => hg (by have e' : k = g := e; rw [← e']; exact hk))

set_option maxRecDepth 100000 in
set_option maxHeartbeats 1000000 in
theorem take_none {b : Nat} {F : Nat → Prop} {s : LS} {w : World} (h : Ln w 89 b F s) (hs : s.vs = []) :
    Calls Try.prog 41 #[.pointer (some ⟨b, 0, none⟩)] w fun e w' => e = .returned (tkV (0, (0, 0), false, 21)) ∧ LnOut w 89 b F s w' := by
  have hb := below_al w (.cells #[.int .i64 0, .int .i64 0] 52)
  have hl := len_any (h.below hb)
  rw [hs] at hl
  have HL := hd h
  have HB := hd hb
  clear h hs hb
  go_enter Try.func41, Try.ntmps41
  go_wp2_with (first | (go_at_call 40; refine hl.mono ?_; rintro e1 w1 ⟨rfl, rfl⟩))
  refine bodyPost_ret (v := tkV (0, (0, 0), false, 21)) (by simp [results, Try.results41, go_sem, tkV]) rfl ⟨rfl, LnOut.same HL.out ?_⟩
  exact HB.out

/-- A lane's parts, in a world that has come of an elder one by changes of the lane alone. -/
structure LnTo (w : World) (T : TypeId) (b : Nat) (a1 a2 : Option Addr) (s' : LS) (w' : World) (a1' : Option Addr) (c1' : Nat) (a2' : Option Addr) (c2' : Nat) : Prop where
  at' : LnAt w' T b s' a1' c1' a2' c2'
  mod : Mod (fp b a1 a2) w w'
  new : ∀ k, fp b a1' a2' k → fp b a1 a2 k ∨ w.heap.size ≤ k

section
variable {w w' w'' : World} {T : TypeId} {b : Nat} {s' : LS} {a1 a2 a1' a2' : Option Addr} {c1' c2' : Nat} {F : Nat → Prop}
theorem LnTo.out (h : LnTo w T b a1 a2 s' w' a1' c1' a2' c2') (hf : ∀ k, fp b a1 a2 k → F k) : LnOut w T b F s' w' := LnOut.mk' hf (below_same w) h.mod h.at' h.new
theorem LnTo.bel (h : LnTo w T b a1 a2 s' w' a1' c1' a2' c2') (hb : Below w'.heap.size w' w'') : LnTo w T b a1 a2 s' w'' a1' c1' a2' c2' := ⟨h.at'.below hb, h.mod.after hb, h.new⟩
theorem LnTo.other (h : LnTo w T b a1 a2 s' w' a1' c1' a2' c2') {g : Nat} (hg : ¬ fp b a1' a2' g) (hw : w.heap.size ≤ g) (i : Nat) (u : Value) : LnTo w T b a1 a2 s' (w'.setCell ⟨g, i, none⟩ u) a1' c1' a2' c2' :=
  ⟨h.at'.other hg i u, h.mod.setCell (.inr hw) u, h.new⟩
theorem LnTo.putV (h : LnTo w T b a1 a2 s' w' a1' c1' a2' c2') (hm : Mod (fun k => blk a1' = some k) w' w'') {a : Option Addr} {vs : List Int} {n c : Nat} (hR : Row w'' 2 1 a n c (iC vs)) (hl : n = vs.length) (hn : ∀ k, blk a = some k → blk a1' = some k ∨ w'.heap.size ≤ k) :
    LnTo w T b a1 a2 { s' with vs := vs } (w''.setCell ⟨b, 1, none⟩ (.slice a n c)) a c a2' c2' := by
  have hin : ∀ k, blk a1' = some k → fp b a1 a2 k ∨ w.heap.size ≤ k := fun k hk => h.new k (.inr (.inl hk))
  refine ⟨h.at'.putV hm hR hl hn, (h.mod.trans hm hin).setCell (.inl (.inl rfl)) _, fun k hk => ?_⟩
  rcases hk with hk | hk | hk
  · exact .inl (.inl hk)
  · rcases hn k hk with h1 | h1
    · exact hin k h1
    · exact .inr (Nat.le_trans h.mod.size h1)
  · exact h.new k (.inr (.inr hk))
theorem LnTo.putW (h : LnTo w T b a1 a2 s' w' a1' c1' a2' c2') (hm : Mod (fun k => blk a2' = some k) w' w'') {a : Option Addr} {ws : List (Int × Int)} {n c : Nat} (hR : Row w'' 52 2 a n c (wC ws)) (hl : n = ws.length) (hn : ∀ k, blk a = some k → blk a2' = some k ∨ w'.heap.size ≤ k) :
    LnTo w T b a1 a2 { s' with ws := ws } (w''.setCell ⟨b, 2, none⟩ (.slice a n c)) a1' c1' a c := by
  have hin : ∀ k, blk a2' = some k → fp b a1 a2 k ∨ w.heap.size ≤ k := fun k hk => h.new k (.inr (.inr hk))
  refine ⟨h.at'.putW hm hR hl hn, (h.mod.trans hm hin).setCell (.inl (.inl rfl)) _, fun k hk => ?_⟩
  rcases hk with hk | hk | hk
  · exact .inl (.inl hk)
  · exact h.new k (.inr (.inl hk))
  · rcases hn k hk with h1 | h1
    · exact hin k h1
    · exact .inr (Nat.le_trans h.mod.size h1)
theorem LnTo.putT (h : LnTo w T b a1 a2 s' w' a1' c1' a2' c2') (x : Int) : LnTo w T b a1 a2 { s' with tk := x } (w'.setCell ⟨b, 3, none⟩ (.int .i64 x)) a1' c1' a2' c2' :=
  ⟨h.at'.putT x, h.mod.setCell (.inl (.inl rfl)) _, h.new⟩
end

/-- Two whole numbers at a block of the call's own. -/
structure Box2 (w : World) (t : TypeId) (G : Nat) (x y : Int) : Prop where
  obj : w.heap[G]? = some (.cells #[.int .i64 x, .int .i64 y] t (0, 0))
section
variable {w w' : World} {t : TypeId} {G : Nat} {x y : Int}
theorem Box2.c0 (h : Box2 w t G x y) : w.cell? ⟨G, 0, none⟩ = some (.int .i64 x) := by rw [cell_of_row _ _ _ _ _ _ h.obj]; rfl
theorem Box2.c1 (h : Box2 w t G x y) : w.cell? ⟨G, 1, none⟩ = some (.int .i64 y) := by rw [cell_of_row _ _ _ _ _ _ h.obj]; rfl
theorem Box2.fr (h : Box2 w t G x y) (i : Nat) : w.frozen? ⟨G, i, none⟩ = false := by simp [World.frozen?, h.obj]
theorem Box2.lt (h : Box2 w t G x y) : G < w.heap.size := (Array.getElem?_eq_some_iff.1 h.obj).1
theorem Box2.mod {S : Nat → Prop} (h : Box2 w t G x y) (hm : Mod S w w') (hn : ¬ S G) : Box2 w' t G x y := ⟨by rw [hm.block G h.lt hn]; exact h.obj⟩
theorem Box2.bel (h : Box2 w t G x y) (hm : Below w.heap.size w w') : Box2 w' t G x y := ⟨by rw [hm.block G h.lt]; exact h.obj⟩
theorem Box2.set (h : Box2 w t G x y) {b : Nat} (hb : G ≠ b) (i : Nat) (u : Value) : Box2 (w.setCell ⟨b, i, none⟩ u) t G x y := ⟨by rw [Below.heap_setCell _ _ _ _ hb]; exact h.obj⟩
theorem Box2.put (h : Box2 w t G x y) (x' y' : Int) : Box2 ((w.setCell ⟨G, 0, none⟩ (.int .i64 x')).setCell ⟨G, 1, none⟩ (.int .i64 y')) t G x' y' := ⟨by rw [heap_setCell_self (heap_setCell_self h.obj _)]; rfl⟩
theorem box_new (w : World) (t : TypeId) (x y : Int) : Box2 (w.alloc (.cells #[.int .i64 x, .int .i64 y] t)) t w.heap.size x y := ⟨heap_alloc_new _ _⟩
end

set_option maxRecDepth 100000 in
set_option maxHeartbeats 2000000 in
theorem take_some {b : Nat} {F : Nat → Prop} {s : LS} {w : World} (h : Ln w 89 b F s) (hg : Good s) {v : Int} {r : List Int} (hs : s.vs = v :: r) (hn : s.ws.length ≤ 8000000000000) :
    Calls Try.prog 41 #[.pointer (some ⟨b, 0, none⟩)] w fun e w' => e = .returned (tkV (takeL s).1) ∧ LnOut w 89 b F (takeL s).2 w' := by
  have hb := below_al w (.cells #[.int .i64 0, .int .i64 0] 52)
  have hl := len_any (h.below hb)
  have hlen := hg.len
  have hr2 := hg.r2
  have hmo := fun W => more_any s.tk W hg.may.2.2.2.1
  obtain ⟨a1, c1, a2, c2, h, hF, hlt⟩ := h
  obtain ⟨gv, rfl⟩ := h.vals.head (by rw [hs]; simp)
  have hvl : Hid (s.vs.length = r.length + 1) := hd (by rw [hs]; simp)
  have e00 : ((s.vs.length : Int) == 0) = false := by simp [hvl.out]; omega
  have HT : Hid (LnTo w 89 b (some ⟨gv, 0, none⟩) a2 s (w.alloc (.cells #[.int .i64 0, .int .i64 0] 52)) (some ⟨gv, 0, none⟩) c1 a2 c2) := hd ⟨h.below hb, Mod.of_below _ hb, fun k hk => .inl hk⟩
  have HX : Hid (Box2 (w.alloc (.cells #[.int .i64 0, .int .i64 0] 52)) 52 w.heap.size 0 0) := hd (box_new _ _ _ _)
  have hgs : Hid (∀ k, fp b (some ⟨gv, 0, none⟩) a2 k → k < w.heap.size) := hd h.lt
  have HF := hd hF
  have HS := hd hs
  obtain ⟨Q, hQ⟩ : ∃ Q : Ending → World → Prop, Hid ((fun e w' => e = .returned (tkV (takeL s).1) ∧ LnOut w 89 b F (takeL s).2 w') = Q) := ⟨_, rfl⟩
  rw [hQ.out]
  clear h hF hlt hb hs hg
  obtain ⟨N, hN⟩ : ∃ N, Hid (s.vs.length = N) := ⟨_, rfl⟩
  rw [hN.out] at e00 hl hlen
  have hN0 : (0 : Int) < (N : Int) := by have h1 := hvl.out; have h2 := hN.out; omega
  have hN0' : 0 < N := by omega
  go_enter Try.func41, Try.ntmps41
  go_upto_region 3 with (first | (go_at_call 40; refine hl.mono ?_; rintro e1 w1 ⟨rfl, rfl⟩))
  obtain ⟨G, hG⟩ : ∃ G, Hid (w.heap.size = G) := ⟨_, rfl⟩
  obtain ⟨w1, hw1⟩ : ∃ W, Hid (w.alloc (.cells #[.int .i64 0, .int .i64 0] 52) = W) := ⟨_, rfl⟩
  rw [hw1.out] at HT HX ⊢
  rw [hG.out] at HX ⊢
  clear hl hw1
  -- the first message
  have p1 := HT.out.at'.cells.2.1
  obtain ⟨_, _, ev, p2⟩ := rd_i HT.out.at'.vals.rd 0 (by rw [hvl.out]; omega)
  cases ev
  rw [HS.out] at p2
  rw [hN.out] at p1
  simp only [List.getD_cons_zero, Nat.zero_add] at p2
  have hwo := without_i (i := 0) HT.out.at'.vals (by rw [hvl.out]; omega)
  rw [hN.out, show ((0 : Nat) : Int) = 0 from rfl] at hwo
  obtain ⟨m, hm⟩ : ∃ m, Hid (N - 1 = m) := ⟨_, rfl⟩
  rw [hm.out] at hwo
  have HE : Hid (∀ E w2, WOut w1 2 1 gv m (iC (s.vs.eraseIdx 0)) E w2 → (w2.cell? ⟨b, 1, none⟩ = w1.cell? ⟨b, 1, none⟩ ∧ w2.frozen? ⟨b, 1, none⟩ = false) ∧ Hid (LnTo w 89 b (some ⟨gv, 0, none⟩) a2 { s with vs := r } (w2.setCell ⟨b, 1, none⟩ (.slice (some ⟨gv, 0, none⟩) m m)) (some ⟨gv, 0, none⟩) m a2 c2 ∧ Box2 (w2.setCell ⟨b, 1, none⟩ (.slice (some ⟨gv, 0, none⟩) m m)) 52 G 0 0)) := hd (fun E w2 ⟨_, R2, M2⟩ => by
    have M2' : Mod (fun k => blk (some ⟨gv, 0, none⟩) = some k) w1 w2 := M2.mono (fun k _ hk => by rw [hk]; rfl)
    refine ⟨HT.out.at'.stayV M2' 1, hd ⟨?_, ?_⟩⟩
    · refine HT.out.putV M2' (vs := r) ?_ ?_ (fun k hk => .inl hk)
      · rw [HS.out] at R2
        exact R2
      · have h1 := hvl.out
        have h2 := hN.out
        have h3 := hm.out
        omega
    · refine (HX.out.mod M2 (fun e => ?_)).set (fun e => ?_) _ _
      · have := hgs.out gv (.inr (.inl rfl))
        have := hG.out
        omega
      · have := hgs.out b (.inl rfl)
        have := hG.out
        omega)
  clear HX HT
  go_upto_region 5 with (first | (go_at_call 63; refine hwo.mono ?_; rintro e2 w2 hw2; obtain rfl := hw2.1; obtain ⟨⟨z1, z2⟩, HE2⟩ := HE.out _ w2 hw2; rw [p1] at z1; clear hw2))
  obtain ⟨w3, hw3⟩ : ∃ W, Hid (w2.setCell ⟨b, 1, none⟩ (.slice (some ⟨gv, 0, none⟩) m m) = W) := ⟨_, rfl⟩
  rw [hw3.out] at HE2 ⊢
  clear hw3 z1 z2 hwo p1 p2 HE
  -- how many were taken
  have p3 := HE2.out.1.at'.cells.2.2.2.1
  have p4 := HE2.out.1.at'.free 3
  have hmo3 := hmo w3
  have HT4 : Hid (LnTo w 89 b (some ⟨gv, 0, none⟩) a2 { s with vs := r, tk := moreL s.tk } (w3.setCell ⟨b, 3, none⟩ (.int .i64 (moreL s.tk))) (some ⟨gv, 0, none⟩) m a2 c2) := hd (HE2.out.1.putT (moreL s.tk))
  have HX4 : Hid (Box2 (w3.setCell ⟨b, 3, none⟩ (.int .i64 (moreL s.tk))) 52 G 0 0) := hd (HE2.out.2.set (fun e => by have := hgs.out b (.inl rfl); have := hG.out; omega) _ _)
  simp only at p3
  go_upto_region 6 with (first | (go_at_call 64; refine hmo3.mono ?_; rintro e4 w3 ⟨rfl, rfl⟩))
  obtain ⟨w4, hw4⟩ : ∃ W, Hid (w3.setCell ⟨b, 3, none⟩ (.int .i64 (moreL s.tk)) = W) := ⟨_, rfl⟩
  rw [hw4.out] at HT4 HX4 ⊢
  clear hw4 p3 p4 hmo3 hmo HE2
  have p2 := HT4.out.at'.cells.2.2.1
  simp only at p2
  have x0 := HX4.out.c0
  have x1 := HX4.out.c1
  have x2 := HX4.out.fr 0
  have x3 := HX4.out.fr 1
  rcases hws : s.ws with _ | ⟨⟨wp, wv⟩, q⟩
  · have HFI : Hid (Q (.returned (tkV (v, (0, 0), false, 0))) ((w4.setCell ⟨G, 0, none⟩ (.int .i64 0)).setCell ⟨G, 1, none⟩ (.int .i64 0)).drew) := hd (by
      rw [← hQ.out]
      have hgn : ¬ fp b (some ⟨gv, 0, none⟩) a2 G := fun hk => by have := hgs.out G hk; have := hG.out; omega
      have e1 : takeL s = ((v, (0, 0), false, 0), { s with vs := r, tk := moreL s.tk }) := by unfold takeL; rw [HS.out, hws]
      rw [e1]
      exact ⟨rfl, (((HT4.out.other hgn (by have := hG.out; omega) 0 _).other hgn (by have := hG.out; omega) 1 _).bel ((Below.refl _ _).drew)).out HF.out⟩)
    rw [hws] at p2
    clear HT4
    have x4 := (HX4.out.put 0 0).c0
    have x5 := (HX4.out.put 0 0).c1
    clear HX4
    go_wp2_with fail
    go_region
    go_wp2_with fail
    refine bodyPost_ret (v := tkV (v, (0, 0), false, 0)) (by simp [results, Try.results41, go_sem, tkV, x4, x5]) rfl HFI.out
  · have hwl : Hid (s.ws.length = q.length + 1) := hd (by rw [hws]; simp)
    obtain ⟨gw, rfl⟩ := HT4.out.at'.wts.head (by simp only; rw [hwl.out]; omega)
    have HWS : Hid (s.ws = (wp, wv) :: q) := hd hws
    clear hws
    obtain ⟨M, hM⟩ : ∃ M, Hid (s.ws.length = M) := ⟨_, rfl⟩
    have hM0 : (0 : Int) < (M : Int) := by have h1 := hwl.out; have h2 := hM.out; omega
    have hM0' : 0 < M := by omega
    obtain ⟨_, _, ew, p5, p6⟩ := rd_w HT4.out.at'.wts.rd 0 (by simp only; rw [hwl.out]; omega)
    cases ew
    simp only at p5 p6
    rw [HWS.out] at p5 p6
    simp only [List.getD_cons_zero, Nat.zero_add, Nat.zero_mul] at p5 p6
    rw [hM.out] at p2
    have hgn : ¬ fp b (some ⟨gv, 0, none⟩) (some ⟨gw, 0, none⟩) G := fun hk => by have := hgs.out G hk; have := hG.out; omega
    have HT5 : Hid (LnTo w 89 b (some ⟨gv, 0, none⟩) (some ⟨gw, 0, none⟩) { s with vs := r, tk := moreL s.tk } ((w4.setCell ⟨G, 0, none⟩ (.int .i64 wp)).setCell ⟨G, 1, none⟩ (.int .i64 wv)) (some ⟨gv, 0, none⟩) m (some ⟨gw, 0, none⟩) c2) := hd
      ((HT4.out.other hgn (by have := hG.out; omega) 0 _).other hgn (by have := hG.out; omega) 1 _)
    have HX5 : Hid (Box2 ((w4.setCell ⟨G, 0, none⟩ (.int .i64 wp)).setCell ⟨G, 1, none⟩ (.int .i64 wv)) 52 G wp wv) := hd (HX4.out.put wp wv)
    have hgw : gw ≠ G := fun e => hgn (.inr (.inr (by rw [e]; rfl)))
    clear HT4 HX4
    go_upto_region 8 with fail
    obtain ⟨w5, hw5⟩ : ∃ W, Hid ((w4.setCell ⟨G, 0, none⟩ (.int .i64 wp)).setCell ⟨G, 1, none⟩ (.int .i64 wv) = W) := ⟨_, rfl⟩
    rw [hw5.out] at HT5 HX5 ⊢
    clear hw5 p2 p5 p6 x0 x1 x2 x3
    have p2 := HT5.out.at'.cells.2.2.1
    simp only at p2
    have hwo := without_w (i := 0) HT5.out.at'.wts (by simp only; rw [hwl.out]; omega)
    simp only at hwo
    rw [hM.out, show ((0 : Nat) : Int) = 0 from rfl] at hwo
    rw [hM.out] at p2
    obtain ⟨k, hk⟩ : ∃ k, Hid (M - 1 = k) := ⟨_, rfl⟩
    rw [hk.out] at hwo
    have HE : Hid (∀ E w6, WOut w5 52 2 gw k (wC (s.ws.eraseIdx 0)) E w6 → (w6.cell? ⟨b, 2, none⟩ = w5.cell? ⟨b, 2, none⟩ ∧ w6.frozen? ⟨b, 2, none⟩ = false) ∧ Hid (LnTo w 89 b (some ⟨gv, 0, none⟩) (some ⟨gw, 0, none⟩) { s with vs := r, tk := moreL s.tk, ws := q } (w6.setCell ⟨b, 2, none⟩ (.slice (some ⟨gw, 0, none⟩) k k)) (some ⟨gv, 0, none⟩) m (some ⟨gw, 0, none⟩) k ∧ Box2 (w6.setCell ⟨b, 2, none⟩ (.slice (some ⟨gw, 0, none⟩) k k)) 52 G wp wv)) := hd (fun E w6 ⟨_, R2, M2⟩ => by
      have M2' : Mod (fun k => blk (some ⟨gw, 0, none⟩) = some k) w5 w6 := M2.mono (fun k _ hk => by rw [hk]; rfl)
      refine ⟨HT5.out.at'.stayW M2' 2, hd ⟨?_, ?_⟩⟩
      · refine HT5.out.putW M2' (ws := q) ?_ ?_ (fun k hk => .inl hk)
        · rw [HWS.out] at R2
          exact R2
        · have h1 := hwl.out
          have h2 := hM.out
          have h3 := hk.out
          omega
      · refine (HX5.out.mod M2 (fun e => hgw e.symm)).set (fun e => hgn (.inl e)) _ _)
    clear HX5 HT5
    go_upto_region 9 with (first | (go_at_call 65; refine hwo.mono ?_; rintro e6 w6 hw6; obtain rfl := hw6.1; obtain ⟨⟨z1, z2⟩, HE2⟩ := HE.out _ w6 hw6; rw [p2] at z1; clear hw6))
    obtain ⟨w7, hw7⟩ : ∃ W, Hid (w6.setCell ⟨b, 2, none⟩ (.slice (some ⟨gw, 0, none⟩) k k) = W) := ⟨_, rfl⟩
    rw [hw7.out] at HE2 ⊢
    clear hw7 z1 z2 hwo p2 HE
    have p1 := HE2.out.1.at'.cells.2.1
    have x1 := HE2.out.2.c1
    simp only at p1
    have hrm : r.length = m := by have h1 := hvl.out; have h2 := hN.out; have h3 := hm.out; omega
    rw [hrm] at p1
    have hmb : m ≤ 64 := by have h3 := hm.out; omega
    have hbl' := HE2.out.1.at'.blt
    have hbl : b ≠ w7.heap.size := Nat.ne_of_lt hbl'
    have hGl : G ≠ w7.heap.size := Nat.ne_of_lt HE2.out.2.lt
    have HT8 : Hid (LnTo w 89 b (some ⟨gv, 0, none⟩) (some ⟨gw, 0, none⟩) { s with vs := r, tk := moreL s.tk, ws := q } w7.drew (some ⟨gv, 0, none⟩) m (some ⟨gw, 0, none⟩) k) := hd (HE2.out.1.bel ((Below.refl _ w7).drew))
    have HX8 : Hid (Box2 w7.drew 52 G wp wv) := hd (HE2.out.2.bel ((Below.refl _ w7).drew))
    clear HE2
    obtain ⟨a', c', w8, hap, R8, M8, B8⟩ := push_i (w := w7.drew) HT8.out.at'.vals (by simp only; omega) wv
    simp only at hap R8 M8 B8
    rw [hrm] at hap R8
    have hap : Hid (∀ ty, (Builtin.append_ #[26, 26] ty #[.slice (some ⟨gv, 0, none⟩) m m, .slice (some ⟨w7.heap.size, 0, none⟩) 1 1]).run Try.prog (w7.alloc (.cells #[.int .i64 wv] 2)).drew = .ok (.slice a' (m + 1) c') w8) := hd hap
    obtain ⟨z1, z2⟩ := HT8.out.at'.stayV M8 1
    have hgv : gv ≠ G := fun e => hgn (.inr (.inl (by rw [e]; rfl)))
    have HX9 : Hid (Box2 w8 52 G wp wv) := hd (HX8.out.mod M8 (fun e => hgv (Option.some.inj e)))
    have z1 : w8.cell? ⟨b, 1, none⟩ = some (.slice (some ⟨gv, 0, none⟩) m m) := z1.trans p1
    have z3 := HX9.out.c1
    have HT9 : Hid (LnTo w 89 b (some ⟨gv, 0, none⟩) (some ⟨gw, 0, none⟩) { s with vs := r ++ [wv], tk := moreL s.tk, ws := q } (w8.setCell ⟨b, 1, none⟩ (.slice a' (m + 1) c')) a' c' (some ⟨gw, 0, none⟩) k) := hd
      (HT8.out.putV M8 (vs := r ++ [wv]) (by rw [iC_app]; exact R8) (by simp [hrm]) B8)
    have HX10 : Hid (Box2 (w8.setCell ⟨b, 1, none⟩ (.slice a' (m + 1) c')) 52 G wp wv) := hd (HX9.out.set (fun e => hgn (.inl e)) _ _)
    have hgn9 : Hid (¬ fp b a' (some ⟨gw, 0, none⟩) G) := hd (fun hk => by
      rcases hk with hk | hk | hk
      · exact hgn (.inl hk)
      · rcases B8 G hk with h | h
        · exact hgn (.inr (.inl h))
        · have := HX8.out.lt
          omega
      · exact hgn (.inr (.inr hk)))
    clear HT8 HX8 HX9 R8 M8 B8
    have y1 : (w7.alloc (.cells #[.int .i64 wv] 2)).cell? ⟨b, 1, none⟩ = some (.slice (some ⟨gv, 0, none⟩) m m) := ((below_al w7 _).cell (p := ⟨b, 1, none⟩) hbl').trans p1
    go_region_law ((refine step_append_run (by rfl) _ _ _ (by rfl) _ _ _ _ (by rfl) (by rfl) hap.out ?_))
    all_goals
      obtain ⟨w9, hw9⟩ : ∃ W, Hid (w8.setCell ⟨b, 1, none⟩ (.slice a' (m + 1) c') = W) := ⟨_, rfl⟩
      rw [hw9.out] at HT9 HX10 ⊢
      have HFI : Hid (Q (.returned (tkV (v, (wp, wv), true, 0))) ((w9.setCell ⟨G, 0, none⟩ (.int .i64 wp)).setCell ⟨G, 1, none⟩ (.int .i64 wv)).drew) := hd (by
        rw [← hQ.out]
        have e1 : takeL s = ((v, (wp, wv), true, 0), { s with vs := r ++ [wv], tk := moreL s.tk, ws := q }) := by unfold takeL; rw [HS.out, HWS.out]
        rw [e1]
        exact ⟨rfl, (((HT9.out.other hgn9.out (by have := hG.out; omega) 0 _).other hgn9.out (by have := hG.out; omega) 1 _).bel ((Below.refl _ _).drew)).out HF.out⟩)
      have u0 := HX10.out.c0
      have u1 := HX10.out.c1
      have u2 := HX10.out.fr 0
      have u3 := HX10.out.fr 1
      have u4 := (HX10.out.put wp wv).c0
      have u5 := (HX10.out.put wp wv).c1
      clear HT9 HX10 hap z1 z2 z3 y1 p1 x1 hw9
      go_wp2_with fail
      go_region
      go_wp2_with fail
      refine bodyPost_ret (v := tkV (v, (wp, wv), true, 0)) (by simp [results, Try.results41, go_sem, tkV, u4, u5]) rfl HFI.out

theorem take_any {b : Nat} {F : Nat → Prop} {s : LS} {w : World} (h : Ln w 89 b F s) (hg : Good s) (hn : s.ws.length ≤ 8000000000000) :
    Calls Try.prog 41 #[.pointer (some ⟨b, 0, none⟩)] w fun e w' => e = .returned (tkV (takeL s).1) ∧ LnOut w 89 b F (takeL s).2 w' := by
  rcases hs : s.vs with _ | ⟨v, r⟩
  · have e1 : takeL s = ((0, (0, 0), false, 21), s) := by unfold takeL; rw [hs]
    rw [e1]
    exact take_none h hs
  · exact take_some h hg hs hn
end Go.Proofs.Ytknklbojcnhjcaa
