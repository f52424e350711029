/- tidy. -/
import Derived.Test.YtdpbkoohhnpjmaaWWC
import Derived.Test.YtdpbkoohhnpjmaaWWE
namespace Go.Proofs.Ytdpbkoohhnpjmaa
open Go.RowKit Go.Sort Go.Shelf Go.Maps

/-- A wheel behind a call that changes its order alone. -/
structure WhTo (w : World) (b m : Nat) (a : Option Addr) (w' : World) (a' : Option Addr) (c' : Nat) (L O' : List Th) : Prop where
  at' : WhAt w' b m a' c' L O'
  mod : Mod (fun k => k = b ∨ blk a = some k) w w'
  new : ∀ k, blk a' = some k → blk a = some k ∨ w.heap.size ≤ k
theorem WhTo.refl {w : World} {b m : Nat} {a : Option Addr} {c : Nat} {L O : List Th} (h : WhAt w b m a c L O) : WhTo w b m a w a c L O := ⟨h, Mod.refl _ _, fun _ h => .inl h⟩
theorem WhTo.hpTo {w w' : World} {b m : Nat} {a a' : Option Addr} {c' : Nat} {L O' : List Th} (h : WhTo w b m a w' a' c' L O') : HpTo w b m a w' a' c' O' := ⟨h.at'.hp, h.mod, h.new⟩
theorem WhTo.order {w w1 w2 : World} {b m : Nat} {a a1 a2 : Option Addr} {c1 c2 : Nat} {L O1 O2 : List Th} (h : WhTo w b m a w1 a1 c1 L O1) (hT : HpTo w1 b m a1 w2 a2 c2 O2) (hh : Heap (tAt O2) O2.length) (hall : ∀ t ∈ L, t ∈ O2) (hfit : ∀ t ∈ O2, FitT t) : WhTo w b m a w2 a2 c2 L O2 :=
  have ht := h.hpTo.trans hT
  ⟨h.at'.order hT hh hall hfit, ht.mod, ht.new⟩
theorem WhTo.below {w w1 w2 : World} {b m : Nat} {a a1 : Option Addr} {c1 : Nat} {L O1 : List Th} (h : WhTo w b m a w1 a1 c1 L O1) (hb : Below w1.heap.size w1 w2) : WhTo w b m a w2 a1 c1 L O1 := ⟨h.at'.below hb, h.mod.after hb, h.new⟩

/-- The order made anew of what is set. -/
theorem WhAt.anew {w w1 : World} {b m : Nat} {a a' : Option Addr} {c c' : Nat} {L O ys : List Th} (h : WhAt w b m a c L O) (hb : Below w.heap.size w w1) (hA : AllOf L ys) (hR : Row w1 60 2 a' ys.length c' (wC ys)) (hn : ∀ k, blk a' = some k → w.heap.size ≤ k) (hh : Heap (tAt ys) ys.length) :
    WhTo w b m a (w1.setCell ⟨b, 1, none⟩ (.slice a' ys.length c')) a' c' L ys := by
  have h1 := h.below hb
  have hne : ∀ k, blk a' = some k → k ≠ b := fun k hk => by have := hn k hk; have := h.hp.blt; omega
  obtain ⟨D, m1, m2⟩ := h1.map
  refine ⟨⟨HpAt.lay h1.hp.obj hR rfl hne, ⟨D, owns_kept m1 (Below.heap_setCell _ _ _ _ h.mb), m2⟩, h.mb, fun e => ?_, h.good, hh, fun t ht => (hA.2 t).2 ht, fun t ht => h.good.fit t ((hA.2 t).1 ht)⟩, (Mod.of_below _ hb).setCell (.inl (.inl rfl)) _, fun k hk => .inr (hn k hk)⟩
  have := hn m e
  have := h.mlt
  omega

/-- What tidy leaves. -/
def TidyOut (w : World) (b m : Nat) (a : Option Addr) (L : List Th) (w' : World) : Prop :=
  ∃ a' c' O', WhTo w b m a w' a' c' L O' ∧ (0 < O'.length → tAt O' 0 ∈ L) ∧ O'.length ≤ 2 * L.length

set_option maxRecDepth 100000 in
set_option maxHeartbeats 2000000 in
theorem tidy_any {w : World} {b m : Nat} {a : Option Addr} {c : Nat} {L O : List Th} (h : WhAt w b m a c L O) (hL : L.length ≤ 4398046511104) :
    Calls Try.prog 23 #[.pointer (some ⟨b, 0, none⟩)] w fun e w' => e = .returned (.tuple #[]) ∧ TidyOut w b m a L w' := by
  have c0 := h.hp.c0
  have c1 := h.hp.c1
  have f1 := h.hp.free 1
  have HH := hd h
  obtain ⟨nO, hnO⟩ : ∃ n, Hid (O.length = n) := ⟨_, rfl⟩
  obtain ⟨nL, hnL⟩ : ∃ n, Hid (L.length = n) := ⟨_, rfl⟩
  rw [hnO.out] at c1
  rw [hnL.out] at hL
  have hlen : ∀ (W : World) ty, Below w.heap.size w W → (Builtin.len_ #[52] ty #[.map (some m)]).run Try.prog W = .ok (.int .i64 (nL : Int)) W := fun W ty hb => by
    obtain ⟨D, m1, m2⟩ := (h.below hb).map
    rw [m1.len Try.underlying52 ty, m2.size, hnL.out]
  have hl1 := fun n ty => hlen (w.drewN n) ty (below_drewN (Below.refl _ w) n)
  clear h hlen
  obtain ⟨B, hB⟩ : ∃ B : Bool, Hid (decide ((2 : Int) * (nL : Int) < (nO : Int)) = B) := ⟨_, rfl⟩
  have hB' := hB.out
  go_enter Try.func23, Try.ntmps23
  go_wp2_with fail
  go_quiet (fail)
  go_upto_if 13 with fail
  obtain ⟨wq, hwq⟩ : ∃ W, Hid (w.drewN nq = W) := ⟨_, rfl⟩
  have HB0 : Hid (Below w.heap.size w wq) := hd (by rw [← hwq.out]; exact below_drewN (Below.refl _ w) nq)
  have c0q : wq.cell? ⟨b, 0, none⟩ = some (.map (some m)) := (HB0.out.cell (p := ⟨b, 0, none⟩) HH.out.hp.blt).trans c0
  have HQ := hd (HH.out.below HB0.out)
  have HZ : Hid (wq.heap.size = w.heap.size) := hd (by rw [← hwq.out]; rfl)
  rw [hwq.out]
  clear hwq c0 c1 f1 hl1 hB'
  go_cut [14] (fun v14 wy => Hid (∃ a' c' O', WhTo w b m a wy a' c' L O' ∧ O'.length ≤ 2 * L.length))
  case first =>
    cases B with
    | true =>
      have hv := @values_any m wq
      have bV := below_al wq (.cells #[.map (some m)] 52)
      have hS : Calls Try.prog 27 #[.func (.func 35) #[] #[.pointer (some ⟨wq.heap.size, 0, none⟩)], .func (.func 29) #[] #[]] (wq.alloc (.cells #[.map (some m)] 52)) (SortedOut (wq.alloc (.cells #[.map (some m)] 52)) L) := by
        obtain ⟨D, m1, m2⟩ := (HQ.out.below bV).map
        exact sorted_any (by simp) (by simp) m1 m2 HQ.out.good (by rw [hnL.out]; omega)
      have HK : Hid (∀ (w2 : World) (ys : List Th) (a' : Option Addr) (c' : Nat), AllOf L ys → Row w2 60 2 a' ys.length c' (wC ys) → (∀ k, blk a' = some k → (wq.alloc (.cells #[.map (some m)] 52)).heap.size ≤ k) → Heap (tAt ys) ys.length → Below (wq.alloc (.cells #[.map (some m)] 52)).heap.size (wq.alloc (.cells #[.map (some m)] 52)) w2 →
          w2.cell? ⟨b, 1, none⟩ = some (.slice a nO c) ∧ w2.frozen? ⟨b, 1, none⟩ = false ∧ ∃ a'' c'' O', WhTo w b m a (w2.setCell ⟨b, 1, none⟩ (.slice a' ys.length c')) a'' c'' L O' ∧ O'.length ≤ 2 * L.length) := hd (fun w2 ys a' c' h1 h2 h3 h4 h5 => by
        have bb : Below w.heap.size w w2 := HB0.out.trans (Below.mono (bV.trans (h5.mono bV.size)) HB0.out.size)
        have hw2 := HH.out.below bb
        refine ⟨by have := hw2.hp.c1; rwa [hnO.out] at this, hw2.hp.free 1, a', c', ys, HH.out.anew bb h1 h2 (fun k hk => by have := h3 k hk; have := bV.size; have := HZ.out; omega) h4, by rw [h1.1]; omega⟩)
      clear HQ bV
      go_wp2_with (first
        | (go_at_call 28; refine hv.mono ?_; rintro e1 w1 ⟨rfl, rfl⟩)
        | (go_at_call 27; refine hS.mono ?_; rintro e2 w2 ⟨ys, a', c', rfl, h1, h2, h3, h4, h5⟩; obtain ⟨k1, k2, k3⟩ := HK.out w2 ys a' c' h1 h2 h3 h4 h5; clear h1 h2 h3 h4 h5; have k3 := hd k3))
      go_meet
      case rel => exact hd k3.out
    | false =>
      have HK : Hid (∃ a'' c'' O', WhTo w b m a wq a'' c'' L O' ∧ O'.length ≤ 2 * L.length) := hd ⟨a, c, O, (WhTo.refl HH.out).below HB0.out, by have := hB.out; simp at this; rw [hnO.out, hnL.out]; omega⟩
      clear HQ
      go_wp2_with fail
      go_meet
      case rel => exact hd HK.out
  case rest =>
    clear HQ c0q HZ HB0 hB
    obtain ⟨a1, c1, O1, hW1, hl1⟩ := hcut.out
    have HW1 := hd hW1
    have HL1 := hd hl1
    obtain ⟨n1, hn1⟩ : ∃ n, Hid (O1.length = n) := ⟨_, rfl⟩
    clear hcut hW1 hl1
    go_wp2_with fail
    go_loopg [23] n1 (fun k v23 wr => Hid (∃ a' c' O', WhTo w b m a wr a' c' L O' ∧ O'.length ≤ 2 * L.length ∧ O'.length = k))
    case atStart => exact hd ⟨a1, c1, O1, HW1.out, HL1.out, hn1.out⟩
    case round =>
      obtain ⟨a2, c2, O2, hW2, hl2, hn2⟩ := hrel.out
      clear hrel HW1 HL1
      have k1 := hW2.at'.hp.c1
      rw [hn2] at k1
      have HW2 := hd hW2
      have HL2 := hd hl2
      have HN2 := hd hn2
      clear hW2 hl2 hn2
      by_cases h0 : gk = 0
      · subst h0
        have HE : Hid (TidyOut w b m a L wr) := hd ⟨a2, c2, O2, HW2.out, fun h => by rw [HN2.out] at h; omega, HL2.out⟩
        go_wp2_with fail
        go_end0
        exact ⟨rfl, HE.out⟩
      · obtain ⟨n, hn⟩ : ∃ n, gk = n + 1 := ⟨gk - 1, by omega⟩
        subst hn
        have hrow := HW2.out.at'.hp.row
        obtain ⟨g, rfl, x0, x1⟩ := row_t hrow 0 (by rw [HN2.out]; omega)
        have hmem : tAt O2 0 ∈ O2 := tAt_mem (by rw [HN2.out]; omega)
        have hfit := HW2.out.at'.fit _ hmem
        have hbd : n < 8796093022208 := by have h1 := HL2.out; have h2 := HN2.out; have h3 := hnL.out; omega
        obtain ⟨t, ht⟩ : ∃ t, Hid (tAt O2 0 = t) := ⟨_, rfl⟩
        rw [ht.out] at x0 x1 hfit
        simp only [Nat.zero_mul, Nat.zero_add] at x0 x1
        clear hmem hrow h0
        by_cases hc : t ∈ L
        · have hcn := counts_any HW2.out.at' hfit true (by simp [hc])
          have HE : Hid (∀ W : World, Below wr.heap.size wr W → TidyOut w b m a L W) := hd (fun W hb => ⟨_, c2, O2, HW2.out.below hb, fun _ => by rw [ht.out]; exact hc, HL2.out⟩)
          obtain ⟨t1, t2⟩ := t
          simp only at x0 x1 hcn
          clear hfit hc
          go_wp2_with (first | (go_at_call 30; refine hcn.mono ?_; rintro e1 w1 ⟨rfl, b1⟩))
          go_end0
          exact ⟨rfl, HE.out _ b1⟩
        · have hcn := counts_any HW2.out.at' hfit false (by simp [hc])
          have hpp : ∀ W : World, Below wr.heap.size wr W → _ := fun W hb => hpop_any (HW2.out.at'.below hb).hp HN2.out hbd (by have := HW2.out.at'.heap; rwa [HN2.out] at this)
          have HE : Hid (∀ (w1 w2 : World) (O3 : List Th), Below wr.heap.size wr w1 → HpTo w1 b m (some ⟨g, 0, none⟩) w2 (some ⟨g, 0, none⟩) c2 O3 → Heap (tAt O3) n → O3.length = n → (∀ x ∈ O3, x ∈ O2) → (∀ x ∈ O2, x ∈ O3 ∨ x = tAt O2 0) → ∃ a' c' O', WhTo w b m a w2 a' c' L O' ∧ O'.length ≤ 2 * L.length ∧ O'.length = n) := hd (fun w1 w2 O3 hb h1 h2 h3 h4 h5 => by
            refine ⟨_, c2, O3, (HW2.out.below hb).order h1 (by rw [h3]; exact h2) (fun x hx => ?_) (fun x hx => HW2.out.at'.fit x (h4 x hx)), by have := HL2.out; have := HN2.out; omega, h3⟩
            rcases h5 x (HW2.out.at'.all x hx) with h6 | h6
            · exact h6
            · rw [ht.out] at h6
              rw [h6] at hx
              exact absurd hx hc)
          obtain ⟨t1, t2⟩ := t
          simp only at x0 x1 hcn
          clear hfit hc
          go_wp2_with (first
            | (go_at_call 30; refine hcn.mono ?_; rintro e1 w1 ⟨rfl, b1⟩)
            | (go_at_call 31; refine (hpp _ b1).mono ?_; rintro e2 w2 ⟨⟨v, rfl⟩, O3, h1, h2, h3, h4, h5⟩))
          go_roundg n
          case measure => omega
          case rel => exact hd (HE.out _ _ _ b1 h1 h2 h3 h4 h5)
end Go.Proofs.Ytdpbkoohhnpjmaa
