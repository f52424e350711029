/- A wheel in memory; counts. -/
import Derived.Test.YthhcecllejddeaaGreatDoorGWb
import Derived.Test.YthhcecllejddeaaGreatDoorGWc
namespace Go.Proofs.YthhcecllejddeaaGreatDoor.Wheel
open Go.RowKit Go.Sort Go.Shelf Go.Maps
structure WhAt (w : World) (b m : Nat) (a : Option Addr) (c : Nat) (L O : List Th) : Prop where
 hp : HpAt w b m a c O
 map : ∃ D, w.ownsMap Tryz.prog 3 thElem m L.length D ∧ MapOf thD D L
 mb : m ≠ b
 ma : blk a ≠ some m
 good : GoodW L
 heap : Heap (tAt O) O.length
 all : ∀ t ∈ L, t ∈ O
 fit : ∀ t ∈ O, FitT t
def wfp (b m : Nat) (a : Option Addr) (k : Nat) : Prop := k = b ∨ k = m ∨ blk a = some k
section
variable {w w' : World} {b m : Nat} {a : Option Addr} {c : Nat} {L O : List Th}
theorem owns_kept {W W' : World} {R : Value → Option (DataW Unit × List MemPlace)} {k n : Nat} {T : TypeId} {D : DataW Unit} (h : W.ownsMap Tryz.prog T R k n D) (e : W'.heap[k]? = W.heap[k]?) : W'.ownsMap Tryz.prog T R k n D := by
 unfold World.ownsMap at *
 rw [e]
 exact h
theorem owns_tight {W : World} {R : Value → Option (DataW Unit × List MemPlace)} {k n : Nat} {T : TypeId} {D : DataW Unit} (h : W.ownsMap Tryz.prog T R k n D) : W.ownsMap Tryz.prog T R k (Maps.size D) D := by
 obtain ⟨es, clock, hb, F, hs, hD⟩ := h
 exact ⟨es, clock, hb, F, by subst hD; simp [Maps.size, length_sorted], hD⟩
theorem WhAt.mlt (h : WhAt w b m a c L O) : m < w.heap.size := by
 obtain ⟨D, h1, _⟩ := h.map
 exact h1.lt
theorem WhAt.lt (h : WhAt w b m a c L O) : ∀ k, wfp b m a k → k < w.heap.size := fun k hk => by
 rcases hk with rfl | rfl | hk
 ·exact h.hp.blt
 ·exact h.mlt
 ·exact h.hp.lt k hk
theorem WhAt.mod {S : Nat → Prop} (h : WhAt w b m a c L O) (hm : Mod S w w') (hn : ∀ k, wfp b m a k → ¬ S k) : WhAt w' b m a c L O := by
 obtain ⟨D, h1, h2⟩ := h.map
 exact ⟨h.hp.mod hm (hn b (.inl rfl)) (fun k hk => hn k (.inr (.inr hk))), ⟨D, owns_kept h1 (hm.block m h.mlt (hn m (.inr (.inl rfl)))), h2⟩, h.mb, h.ma, h.good, h.heap, h.all, h.fit⟩
theorem WhAt.below (h : WhAt w b m a c L O) (hb : Below w.heap.size w w') : WhAt w' b m a c L O := h.mod (Mod.of_below (fun _ => False) hb) (fun _ _ h => h)
theorem WhAt.order {a' : Option Addr} {c' : Nat} {O' : List Th} (h : WhAt w b m a c L O) (hT : HpTo w b m a w' a' c' O') (hh : Heap (tAt O') O'.length) (hall : ∀ t ∈ L, t ∈ O') (hfit : ∀ t ∈ O', FitT t) : WhAt w' b m a' c' L O' := by
 obtain ⟨D, h1, h2⟩ := h.map
 refine ⟨hT.hp, ⟨D, owns_kept h1 (hT.mod.block m h.mlt (fun e => ?_)), h2⟩, h.mb, fun e => ?_, h.good, hh, hall, hfit⟩
 ·rcases e with e | e
  ·exact h.mb e
  ·exact h.ma e
 ·rcases hT.new m e with h3 | h3
  ·exact h.ma h3
  ·have := h.mlt
   omega
end
theorem zeroT (w : World) : (zeroValue 205).run Tryz.prog w = .ok (.agg #[.int .i64 0, .int .i64 0]) w := Tryz.zeroValue205 w
theorem FitT.id64 {t : Th} (h : FitT t) : Fit64 t.2 := ⟨by have := h.2.1; omega, h.2.2⟩
theorem look_in {W : World} {m n : Nat} {D : DataW Unit} {L : List Th} (ho : W.ownsMap Tryz.prog 3 thElem m n D) (hM : MapOf thD D L) (hG : GoodW L) {t : Th} (ht : t ∈ L) :
  (Instr.lookup 207 (.map (some m)) (.int .i64 t.2) true).run Tryz.prog W = .ok (.tuple #[.agg #[.int .i64 t.1, .int .i64 t.2], .bool true]) W := by
 obtain ⟨v, ps, h1, h2⟩ := ho.look_ok lawInt Tryz.underlying207 (zeroT W) (thElem_mk (0, 0)) (key_int (hG.fit t ht).id64)
 rw [hM.at' t ht] at h2
 obtain ⟨s, rfl, e⟩ := thElem_inv h2
 obtain rfl := thD_inj (Prod.mk.inj e).1
 rw [h1, hM.has, isSet_iff.2 ⟨t, ht, rfl⟩]
 rfl
theorem look_out {W : World} {m n : Nat} {D : DataW Unit} {L : List Th} (ho : W.ownsMap Tryz.prog 3 thElem m n D) (hM : MapOf thD D L) {id : Int} (hf : Fit64 id) (hs : isSet id L = false) :
  (Instr.lookup 207 (.map (some m)) (.int .i64 id) true).run Tryz.prog W = .ok (.tuple #[.agg #[.int .i64 0, .int .i64 0], .bool false]) W := by
 obtain ⟨v, ps, h1, h2⟩ := ho.look_ok lawInt Tryz.underlying207 (zeroT W) (thElem_mk (0, 0)) (key_int hf)
 rw [atKey_of_not_has (by rw [hM.has]; exact hs)] at h2
 obtain ⟨s, rfl, e⟩ := thElem_inv h2
 obtain rfl := thD_inj (Prod.mk.inj e).1
 rw [h1, hM.has, hs]
 rfl
theorem WhAt.lookIn {w : World} {b m : Nat} {a : Option Addr} {c : Nat} {L O : List Th} (h : WhAt w b m a c L O) {t : Th} (ht : t ∈ L) (W : World) (hb : Below w.heap.size w W) : (Instr.lookup 207 (.map (some m)) (.int .i64 t.2) true).run Tryz.prog W = .ok (.tuple #[.agg #[.int .i64 t.1, .int .i64 t.2], .bool true]) W := by
 obtain ⟨D, h1, h2⟩ := (h.below hb).map
 exact look_in h1 h2 h.good ht
theorem WhAt.lookOut {w : World} {b m : Nat} {a : Option Addr} {c : Nat} {L O : List Th} (h : WhAt w b m a c L O) {id : Int} (hf : Fit64 id) (hs : isSet id L = false) (W : World) (hb : Below w.heap.size w W) : (Instr.lookup 207 (.map (some m)) (.int .i64 id) true).run Tryz.prog W = .ok (.tuple #[.agg #[.int .i64 0, .int .i64 0], .bool false]) W := by
 obtain ⟨D, h1, h2⟩ := (h.below hb).map
 exact look_out h1 h2 hf hs
theorem WhAt.counts {w : World} {b m : Nat} {a : Option Addr} {c : Nat} {L O : List Th} (h : WhAt w b m a c L O) {t : Th} (ht : FitT t) :
  ∃ (n1 n2 : Int) (is : Bool), (is && (decide (n1 = t.1) && decide (n2 = t.2))) = decide (t ∈ L) ∧ ∀ W : World, Below w.heap.size w W → (Instr.lookup 207 (.map (some m)) (.int .i64 t.2) true).run Tryz.prog W = .ok (.tuple #[.agg #[.int .i64 n1, .int .i64 n2], .bool is]) W := by
 cases hs : isSet t.2 L with
 | true =>
  obtain ⟨s, hs', e⟩ := isSet_iff.1 hs
  refine ⟨s.1, s.2, true, ?_, fun W hb => by rw [← e]; exact h.lookIn hs' W hb⟩
  by_cases hst : s = t
  ·subst hst; simp [hs']
  ·have h1 : ¬ t ∈ L := fun ht' => hst (h.good.uniq hs' ht' e)
   have h2 : ¬ s.1 = t.1 := fun e1 => hst (Prod.ext e1 e)
   simp [h1, h2]
 | false =>
  refine ⟨0, 0, false, ?_, fun W hb => h.lookOut ht.id64 hs W hb⟩
  have h1 : ¬ t ∈ L := fun ht' => by
   have := isSet_iff.2 ⟨t, ht', rfl⟩
   rw [hs] at this
   cases this
  simp [h1]
end Go.Proofs.YthhcecllejddeaaGreatDoor.Wheel

namespace Go.Proofs.YthhcecllejddeaaGreatDoor.Wheel
open Go.RowKit Go.Sort Go.Shelf Go.Maps
set_option maxRecDepth 100000 in
set_option maxHeartbeats 1000000 in
theorem counts_any {w : World} {b m : Nat} {a : Option Addr} {c : Nat} {L O : List Th} (h : WhAt w b m a c L O) {t : Th} (ht : FitT t) (B : Bool) (hB : B = decide (t ∈ L)) :
  Calls Tryz.prog 180 #[.pointer (some ⟨b, 0, none⟩), .agg #[.int .i64 t.1, .int .i64 t.2]] w fun e w' => e = .returned (.bool B) ∧ Below w.heap.size w w' := by
 obtain ⟨n1, n2, is, hc, hlk⟩ := h.counts ht
 rw [← hB] at hc
 have c0 := h.hp.c0
 have hbl := h.hp.blt
 obtain ⟨t1, t2⟩ := t
 simp only at hc hlk ⊢
 clear h ht hB
 go_enter Tryz.func180, Tryz.ntmps180
 go_upto_region 1 with fail
 obtain ⟨w0, hw0⟩ : ∃ W, Hid (w.alloc (.cells #[.int .i64 t1, .int .i64 t2] 205) = W) := ⟨_, rfl⟩
 have hB0 : Below w.heap.size w w0 := by rw [← hw0.out]; exact below_al w _
 have x0 : w0.cell? ⟨w.heap.size, 0, none⟩ = some (.int .i64 t1) := by rw [← hw0.out]; simp
 have x1 : w0.cell? ⟨w.heap.size, 1, none⟩ = some (.int .i64 t2) := by rw [← hw0.out]; simp
 have x2 : w0.cell? ⟨b, 0, none⟩ = some (.map (some m)) := (hB0.cell (p := ⟨b, 0, none⟩) hbl).trans c0
 have hne : w.heap.size < w0.heap.size := by rw [← hw0.out]; simp
 rw [hw0.out]
 obtain ⟨G, hG⟩ : ∃ G, Hid (w.heap.size = G) := ⟨_, rfl⟩
 rw [hG.out] at x0 x1 hne ⊢
 have hl0 := hlk w0.drew hB0.drew
 have bA := below_al w0 (.cells #[.int .i64 0, .int .i64 0] 205)
 have hl1 := hlk (w0.alloc (.cells #[.int .i64 0, .int .i64 0] 205)).drew (Below.trans hB0 (bA.mono hB0.size)).drew
 have y0 : (w0.alloc (.cells #[.int .i64 0, .int .i64 0] 205)).cell? ⟨G, 0, none⟩ = some (.int .i64 t1) := (bA.cell (p := ⟨G, 0, none⟩) hne).trans x0
 have y1 : (w0.alloc (.cells #[.int .i64 0, .int .i64 0] 205)).cell? ⟨G, 1, none⟩ = some (.int .i64 t2) := (bA.cell (p := ⟨G, 1, none⟩) hne).trans x1
 have y2 : (w0.alloc (.cells #[.int .i64 0, .int .i64 0] 205)).cell? ⟨b, 0, none⟩ = some (.map (some m)) := (bA.cell (p := ⟨b, 0, none⟩) (by show b < w0.heap.size; rw [hG.out] at hbl; omega)).trans x2
 have HB := hd hB0
 clear hw0 hB0 c0 hlk bA
 have HE : Hid (∀ W : World, Below w0.heap.size w0 W → Below w.heap.size w W) := hd (fun W h => HB.out.trans (h.mono (by rw [hG.out]; exact Nat.le_of_lt hne)))
 have bF : Below w0.heap.size w0 (w0.alloc (.cells #[.int .i64 n1, .int .i64 n2] 205)).drew := (below_al w0 _).drew
 have z0 : (w0.alloc (.cells #[.int .i64 n1, .int .i64 n2] 205)).cell? ⟨G, 0, none⟩ = some (.int .i64 t1) := (bF.cell (p := ⟨G, 0, none⟩) hne).trans x0
 have z1 : (w0.alloc (.cells #[.int .i64 n1, .int .i64 n2] 205)).cell? ⟨G, 1, none⟩ = some (.int .i64 t2) := (bF.cell (p := ⟨G, 1, none⟩) hne).trans x1
 have HF := hd bF
 clear bF HB
 cases is with
 | false =>
  obtain rfl : B = false := by rw [← hc]; rfl
  clear hc
  go_region
  all_goals go_wp2_with fail
  all_goals go_ret
  all_goals exact ⟨rfl, HE.out _ HF.out⟩
 | true =>
  by_cases e1 : n1 = t1
  ·by_cases e2 : n2 = t2
   ·obtain rfl : B = true := by rw [← hc]; simp [e1, e2]
    subst e1 e2
    clear hc
    go_region
    all_goals go_wp2_with fail
    all_goals go_ret
    all_goals exact ⟨rfl, HE.out _ HF.out⟩
   ·obtain rfl : B = false := by rw [← hc]; simp [e2]
    have e2' : (n2 == t2) = false := by simpa using e2
    subst e1
    clear hc e2
    go_region
    all_goals go_wp2_with fail
    all_goals go_ret
    all_goals exact ⟨rfl, HE.out _ HF.out⟩
  ·obtain rfl : B = false := by rw [← hc]; simp [e1]
   have e1' : (n1 == t1) = false := by simpa using e1
   clear hc e1
   go_region
   all_goals go_wp2_with fail
   all_goals go_ret
   all_goals exact ⟨rfl, HE.out _ HF.out⟩
end Go.Proofs.YthhcecllejddeaaGreatDoor.Wheel

namespace Go.Proofs.YthhcecllejddeaaGreatDoor.Wheel
open Go.RowKit Go.Sort Go.Shelf Go.Maps
structure WhTo (w : World) (b m : Nat) (a : Option Addr) (w' : World) (a' : Option Addr) (c' : Nat) (L O' : List Th) : Prop where
 at' : WhAt w' b m a' c' L O'
 mod : Mod (fun k => k = b ∨ blk a = some k) w w'
 new : ∀ k, blk a' = some k → blk a = some k ∨ w.heap.size ≤ k
theorem WhTo.refl {w : World} {b m : Nat} {a : Option Addr} {c : Nat} {L O : List Th} (h : WhAt w b m a c L O) : WhTo w b m a w a c L O := ⟨h, Mod.refl _ _, fun _ h => .inl h⟩
theorem WhTo.hpTo {w w' : World} {b m : Nat} {a a' : Option Addr} {c' : Nat} {L O' : List Th} (h : WhTo w b m a w' a' c' L O') : HpTo w b m a w' a' c' O' := ⟨h.at'.hp, h.mod, h.new⟩
theorem WhTo.order {w w1 w2 : World} {b m : Nat} {a a1 a2 : Option Addr} {c1 c2 : Nat} {L O1 O2 : List Th} (h : WhTo w b m a w1 a1 c1 L O1) (hT : HpTo w1 b m a1 w2 a2 c2 O2) (hh : Heap (tAt O2) O2.length) (hall : ∀ t ∈ L, t ∈ O2) (hfit : ∀ t ∈ O2, FitT t) : WhTo w b m a w2 a2 c2 L O2 :=
 have ht := h.hpTo.trans hT
 ⟨h.at'.order hT hh hall hfit, ht.mod, ht.new⟩
theorem WhTo.below {w w1 w2 : World} {b m : Nat} {a a1 : Option Addr} {c1 : Nat} {L O1 : List Th} (h : WhTo w b m a w1 a1 c1 L O1) (hb : Below w1.heap.size w1 w2) : WhTo w b m a w2 a1 c1 L O1 := ⟨h.at'.below hb, h.mod.after hb, h.new⟩
theorem WhAt.anew {w w1 : World} {b m : Nat} {a a' : Option Addr} {c c' : Nat} {L O ys : List Th} (h : WhAt w b m a c L O) (hb : Below w.heap.size w w1) (hA : AllOf L ys) (hR : Row w1 205 2 a' ys.length c' (wC ys)) (hn : ∀ k, blk a' = some k → w.heap.size ≤ k) (hh : Heap (tAt ys) ys.length) :
  WhTo w b m a (w1.setCell ⟨b, 1, none⟩ (.slice a' ys.length c')) a' c' L ys := by
 have h1 := h.below hb
 have hne : ∀ k, blk a' = some k → k ≠ b := fun k hk => by have := hn k hk; have := h.hp.blt; omega
 obtain ⟨D, m1, m2⟩ := h1.map
 refine ⟨⟨HpAt.lay h1.hp.obj hR rfl hne, ⟨D, owns_kept m1 (Below.heap_setCell _ _ _ _ h.mb), m2⟩, h.mb, fun e => ?_, h.good, hh, fun t ht => (hA.2 t).2 ht, fun t ht => h.good.fit t ((hA.2 t).1 ht)⟩, (Mod.of_below _ hb).setCell (.inl (.inl rfl)) _, fun k hk => .inr (hn k hk)⟩
 have := hn m e
 have := h.mlt
 omega
def TidyOut (w : World) (b m : Nat) (a : Option Addr) (L : List Th) (w' : World) : Prop :=
 ∃ a' c' O', WhTo w b m a w' a' c' L O' ∧ (0 < O'.length → tAt O' 0 ∈ L) ∧ O'.length ≤ 2 * L.length
set_option maxRecDepth 100000 in
set_option maxHeartbeats 2000000 in
theorem tidy_any {w : World} {b m : Nat} {a : Option Addr} {c : Nat} {L O : List Th} (h : WhAt w b m a c L O) (hL : L.length ≤ 4398046511104) :
  Calls Tryz.prog 133 #[.pointer (some ⟨b, 0, none⟩)] w fun e w' => e = .returned (.tuple #[]) ∧ TidyOut w b m a L w' := by
 have c0 := h.hp.c0
 have c1 := h.hp.c1
 have f1 := h.hp.free 1
 have HH := hd h
 obtain ⟨nO, hnO⟩ : ∃ n, Hid (O.length = n) := ⟨_, rfl⟩
 obtain ⟨nL, hnL⟩ : ∃ n, Hid (L.length = n) := ⟨_, rfl⟩
 rw [hnO.out] at c1
 rw [hnL.out] at hL
 have hlen : ∀ (W : World) ty, Below w.heap.size w W → (Builtin.len_ #[207] ty #[.map (some m)]).run Tryz.prog W = .ok (.int .i64 (nL : Int)) W := fun W ty hb => by
  obtain ⟨D, m1, m2⟩ := (h.below hb).map
  rw [m1.len Tryz.underlying207 ty, m2.size, hnL.out]
 have hl1 := fun n ty => hlen (w.drewN n) ty (below_drewN (Below.refl _ w) n)
 clear h hlen
 obtain ⟨B, hB⟩ : ∃ B : Bool, Hid (decide ((2 : Int) * (nL : Int) < (nO : Int)) = B) := ⟨_, rfl⟩
 have hB' := hB.out
 go_enter Tryz.func133, Tryz.ntmps133
 go_wp2_with fail
 go_quiet (fail)
 go_upto_if 13 with fail
 obtain ⟨wq, hwq⟩ : ∃ W, Hid (w.drewN nq = W) := ⟨_, rfl⟩
 have HB0 : Hid (Below w.heap.size w wq) := hd (by rw [← hwq.out]; exact below_drewN (Below.refl _ w) nq)
 have c0q : wq.cell? ⟨b, 0, none⟩ = some (.map (some m)) := (HB0.out.cell (p := ⟨b, 0, none⟩) HH.out.hp.blt).trans c0
 have HQ := hd (HH.out.below HB0.out)
 have HZ : Hid (wq.heap.size = w.heap.size) := hd (by rw [← hwq.out]; rfl)
 rw [hwq.out]
 clear hwq c0 c1 f1 hl1 hB'
 go_cut [14] (fun v14 wy => Hid (∃ a' c' O', WhTo w b m a wy a' c' L O' ∧ O'.length ≤ 2 * L.length))
 case first =>
  cases B with
  | true =>
   have hv := @values_any m wq
   have bV := below_al wq (.cells #[.map (some m)] 207)
   have hS : Calls Tryz.prog 177 #[.func (.func 223) #[] #[.pointer (some ⟨wq.heap.size, 0, none⟩)], .func (.func 179) #[] #[]] (wq.alloc (.cells #[.map (some m)] 207)) (SortedOut (wq.alloc (.cells #[.map (some m)] 207)) L) := by
    obtain ⟨D, m1, m2⟩ := (HQ.out.below bV).map
    exact sorted_any (by simp) (by simp) m1 m2 HQ.out.good (by rw [hnL.out]; omega)
   have HK : Hid (∀ (w2 : World) (ys : List Th) (a' : Option Addr) (c' : Nat), AllOf L ys → Row w2 205 2 a' ys.length c' (wC ys) → (∀ k, blk a' = some k → (wq.alloc (.cells #[.map (some m)] 207)).heap.size ≤ k) → Heap (tAt ys) ys.length → Below (wq.alloc (.cells #[.map (some m)] 207)).heap.size (wq.alloc (.cells #[.map (some m)] 207)) w2 →
     w2.cell? ⟨b, 1, none⟩ = some (.slice a nO c) ∧ w2.frozen? ⟨b, 1, none⟩ = false ∧ ∃ a'' c'' O', WhTo w b m a (w2.setCell ⟨b, 1, none⟩ (.slice a' ys.length c')) a'' c'' L O' ∧ O'.length ≤ 2 * L.length) := hd (fun w2 ys a' c' h1 h2 h3 h4 h5 => by
    have bb : Below w.heap.size w w2 := HB0.out.trans (Below.mono (bV.trans (h5.mono bV.size)) HB0.out.size)
    have hw2 := HH.out.below bb
    refine ⟨by have := hw2.hp.c1; rwa [hnO.out] at this, hw2.hp.free 1, a', c', ys, HH.out.anew bb h1 h2 (fun k hk => by have := h3 k hk; have := bV.size; have := HZ.out; omega) h4, by rw [h1.1]; omega⟩)
   clear HQ bV
   go_wp2_with (first
    | (go_at_call 178; refine hv.mono ?_; rintro e1 w1 ⟨rfl, rfl⟩)
    | (go_at_call 177; refine hS.mono ?_; rintro e2 w2 ⟨ys, a', c', rfl, h1, h2, h3, h4, h5⟩; obtain ⟨k1, k2, k3⟩ := HK.out w2 ys a' c' h1 h2 h3 h4 h5; clear h1 h2 h3 h4 h5; have k3 := hd k3))
   go_meet
   case rel => exact hd k3.out
  | false =>
   have HK : Hid (∃ a'' c'' O', WhTo w b m a wq a'' c'' L O' ∧ O'.length ≤ 2 * L.length) := hd ⟨a, c, O, (WhTo.refl HH.out).below HB0.out, by have := hB.out; simp at this; rw [hnO.out, hnL.out]; omega⟩
   clear HQ
   go_wp2_with fail
   go_meet
   case rel => exact hd HK.out
 case rest =>
  clear HQ c0q HZ HB0 hB
  obtain ⟨a1, c1, O1, hW1, hl1⟩ := hcut.out
  have HW1 := hd hW1
  have HL1 := hd hl1
  obtain ⟨n1, hn1⟩ : ∃ n, Hid (O1.length = n) := ⟨_, rfl⟩
  clear hcut hW1 hl1
  go_wp2_with fail
  go_loopg [23] n1 (fun k v23 wr => Hid (∃ a' c' O', WhTo w b m a wr a' c' L O' ∧ O'.length ≤ 2 * L.length ∧ O'.length = k))
  case atStart => exact hd ⟨a1, c1, O1, HW1.out, HL1.out, hn1.out⟩
  case round =>
   obtain ⟨a2, c2, O2, hW2, hl2, hn2⟩ := hrel.out
   clear hrel HW1 HL1
   have k1 := hW2.at'.hp.c1
   rw [hn2] at k1
   have HW2 := hd hW2
   have HL2 := hd hl2
   have HN2 := hd hn2
   clear hW2 hl2 hn2
   by_cases h0 : gk = 0
   ·subst h0
    have HE : Hid (TidyOut w b m a L wr) := hd ⟨a2, c2, O2, HW2.out, fun h => by rw [HN2.out] at h; omega, HL2.out⟩
    go_wp2_with fail
    go_end0
    exact ⟨rfl, HE.out⟩
   ·obtain ⟨n, hn⟩ : ∃ n, gk = n + 1 := ⟨gk - 1, by omega⟩
    subst hn
    have hrow := HW2.out.at'.hp.row
    obtain ⟨g, rfl, x0, x1⟩ := row_t hrow 0 (by rw [HN2.out]; omega)
    have hmem : tAt O2 0 ∈ O2 := tAt_mem (by rw [HN2.out]; omega)
    have hfit := HW2.out.at'.fit _ hmem
    have hbd : n < 8796093022208 := by have h1 := HL2.out; have h2 := HN2.out; have h3 := hnL.out; omega
    obtain ⟨t, ht⟩ : ∃ t, Hid (tAt O2 0 = t) := ⟨_, rfl⟩
    rw [ht.out] at x0 x1 hfit
    simp only [Nat.zero_mul, Nat.zero_add] at x0 x1
    clear hmem hrow h0
    by_cases hc : t ∈ L
    ·have hcn := counts_any HW2.out.at' hfit true (by simp [hc])
     have HE : Hid (∀ W : World, Below wr.heap.size wr W → TidyOut w b m a L W) := hd (fun W hb => ⟨_, c2, O2, HW2.out.below hb, fun _ => by rw [ht.out]; exact hc, HL2.out⟩)
     obtain ⟨t1, t2⟩ := t
     simp only at x0 x1 hcn
     clear hfit hc
     go_wp2_with (first | (go_at_call 180; refine hcn.mono ?_; rintro e1 w1 ⟨rfl, b1⟩))
     go_end0
     exact ⟨rfl, HE.out _ b1⟩
    ·have hcn := counts_any HW2.out.at' hfit false (by simp [hc])
     have hpp : ∀ W : World, Below wr.heap.size wr W → _ := fun W hb => hpop_any (HW2.out.at'.below hb).hp HN2.out hbd (by have := HW2.out.at'.heap; rwa [HN2.out] at this)
     have HE : Hid (∀ (w1 w2 : World) (O3 : List Th), Below wr.heap.size wr w1 → HpTo w1 b m (some ⟨g, 0, none⟩) w2 (some ⟨g, 0, none⟩) c2 O3 → Heap (tAt O3) n → O3.length = n → (∀ x ∈ O3, x ∈ O2) → (∀ x ∈ O2, x ∈ O3 ∨ x = tAt O2 0) → ∃ a' c' O', WhTo w b m a w2 a' c' L O' ∧ O'.length ≤ 2 * L.length ∧ O'.length = n) := hd (fun w1 w2 O3 hb h1 h2 h3 h4 h5 => by
      refine ⟨_, c2, O3, (HW2.out.below hb).order h1 (by rw [h3]; exact h2) (fun x hx => ?_) (fun x hx => HW2.out.at'.fit x (h4 x hx)), by have := HL2.out; have := HN2.out; omega, h3⟩
      rcases h5 x (HW2.out.at'.all x hx) with h6 | h6
      ·exact h6
      ·rw [ht.out] at h6
       rw [h6] at hx
       exact absurd hx hc)
     obtain ⟨t1, t2⟩ := t
     simp only at x0 x1 hcn
     clear hfit hc
     go_wp2_with (first
      | (go_at_call 180; refine hcn.mono ?_; rintro e1 w1 ⟨rfl, b1⟩)
      | (go_at_call 181; refine (hpp _ b1).mono ?_; rintro e2 w2 ⟨⟨v, rfl⟩, O3, h1, h2, h3, h4, h5⟩))
     go_roundg n
     case measure => omega
     case rel => exact hd (HE.out _ _ _ b1 h1 h2 h3 h4 h5)
end Go.Proofs.YthhcecllejddeaaGreatDoor.Wheel

namespace Go.Proofs.YthhcecllejddeaaGreatDoor.Wheel
open Go.RowKit Go.Sort Go.Shelf Go.Maps
def Wh (w : World) (b : Nat) (F : Nat → Prop) (L : List Th) : Prop := ∃ m a c O, WhAt w b m a c L O ∧ (0 < O.length → tAt O 0 ∈ L) ∧ O.length ≤ 2 * L.length ∧ (∀ k, wfp b m a k → F k) ∧ ∀ k, F k → k < w.heap.size
theorem Wh.mod {w w' : World} {b : Nat} {F S : Nat → Prop} {L : List Th} (h : Wh w b F L) (hm : Mod S w w') (hn : ∀ k, F k → ¬ S k) : Wh w' b F L := by
 obtain ⟨m, a, c, O, h1, h2, h3, h4, h5⟩ := h
 exact ⟨m, a, c, O, h1.mod hm (fun k hk => hn k (h4 k hk)), h2, h3, h4, fun k hk => Nat.lt_of_lt_of_le (h5 k hk) hm.size⟩
theorem Wh.below {w w' : World} {b : Nat} {F : Nat → Prop} {L : List Th} (h : Wh w b F L) (hb : Below w.heap.size w w') : Wh w' b F L := h.mod (Mod.of_below (fun _ => False) hb) (fun _ _ h => h)
theorem Wh.lt {w : World} {b : Nat} {F : Nat → Prop} {L : List Th} (h : Wh w b F L) : ∀ k, F k → k < w.heap.size := by
 obtain ⟨m, a, c, O, h1, h2, h3, h4, h5⟩ := h
 exact h5
theorem Wh.good {w : World} {b : Nat} {F : Nat → Prop} {L : List Th} (h : Wh w b F L) : GoodW L := by
 obtain ⟨m, a, c, O, h1, h2, h3, h4, h5⟩ := h
 exact h1.good
def WhOut (w : World) (b : Nat) (F : Nat → Prop) (L' : List Th) (w' : World) : Prop := Mod F w w' ∧ ∃ F', Wh w' b F' L' ∧ ∀ k, F' k → F k ∨ w.heap.size ≤ k
theorem WhOut.mk' {w w' : World} {b m : Nat} {a a' : Option Addr} {c' : Nat} {F : Nat → Prop} {L' O' : List Th} (hF : ∀ k, wfp b m a k → F k) (hm : Mod (wfp b m a) w w') (hW : WhAt w' b m a' c' L' O') (h1 : 0 < O'.length → tAt O' 0 ∈ L') (h2 : O'.length ≤ 2 * L'.length) (hn : ∀ k, blk a' = some k → blk a = some k ∨ w.heap.size ≤ k) : WhOut w b F L' w' :=
 ⟨hm.mono (fun k _ hk => hF k hk), wfp b m a', ⟨m, a', c', O', hW, h1, h2, fun _ h => h, hW.lt⟩, fun k hk => by
  rcases hk with rfl | rfl | hk
  ·exact .inl (hF _ (.inl rfl))
  ·exact .inl (hF _ (.inr (.inl rfl)))
  ·rcases hn k hk with h | h
   ·exact .inl (hF k (.inr (.inr h)))
   ·exact .inr h⟩
theorem mod_grown {w w' : World} {row : Option Nat} (h : w.grownBy w' row) : Mod (fun k => row = some k) w w' := ⟨h.os, h.tape, h.output, h.size, fun k hk hn => h.block k hk (fun e => hn e.symm)⟩
theorem wnew_any {w : World} : Calls Tryz.prog 102 #[] w fun e w' => ∃ b F, e = .returned (.pointer (some ⟨b, 0, none⟩)) ∧ Wh w' b F [] ∧ (∀ k, F k → w.heap.size ≤ k) ∧ Below w.heap.size w w' := by
 have hmm : (Instr.makeMap 207 none).run Tryz.prog w = .ok (.map (some w.heap.size)) (w.alloc (.map #[] 0)) := rfl
 go_enter Tryz.func102, Tryz.ntmps102
 go_wp2
 go_ret
 have hb1 := below_al w (.map #[] 0)
 have hb2 := below_al (w.alloc (.map #[] 0)) (.cells #[.map (some w.heap.size), .slice none 0 0] 211)
 have hm : (w.alloc (.map #[] 0)).ownsMap Tryz.prog 3 thElem w.heap.size 0 (.map [] : DataW Unit) := World.ownsMap_made w Tryz.prog 3 thElem
 have hobj := heap_alloc_new (w.alloc (.map #[] 0)) (.cells #[.map (some w.heap.size), .slice none 0 0] 211)
 have hsz : (w.alloc (.map #[] 0)).heap.size = w.heap.size + 1 := by simp
 rw [hsz] at hobj
 refine ⟨_, wfp (w.heap.size + 1) w.heap.size none, rfl, ⟨w.heap.size, none, 0, [], ⟨⟨hobj, Row.nil, (fun k hk => by cases hk)⟩, ⟨_, hm.alloc _, MapOf.nil _⟩, by omega, (fun e => by cases e), GoodW.nil, fun k h0 hk => absurd hk (Nat.not_lt_zero _), fun t ht => absurd ht List.not_mem_nil, fun t ht => absurd ht List.not_mem_nil⟩, fun h => absurd h (Nat.not_lt_zero _), Nat.zero_le _, fun k hk => hk, fun k hk => ?_⟩, fun k hk => ?_, hb1.trans (hb2.mono (by omega))⟩
 ·rcases hk with rfl | rfl | hk
  ·simp
  ·simp; omega
  ·cases hk
 ·rcases hk with rfl | rfl | hk
  ·omega
  ·exact Nat.le_refl _
  ·cases hk
theorem wdue_any {w : World} {b : Nat} {F : Nat → Prop} {L : List Th} (h : Wh w b F L) {id : Int} (hf : Fit64 id) : Calls Tryz.prog 86 #[.pointer (some ⟨b, 0, none⟩), .int .i64 id] w fun e w' => e = .returned (.tuple #[.int .i64 (dueA id L).1, .bool (dueA id L).2]) ∧ Below w.heap.size w w' := by
 obtain ⟨m, a, c, O, h, -, -, -, -⟩ := h
 have c0 := h.hp.c0
 have hlk : ∃ n2, (Instr.lookup 207 (.map (some m)) (.int .i64 id) true).run Tryz.prog w = .ok (.tuple #[.agg #[.int .i64 (dueA id L).1, .int .i64 n2], .bool (dueA id L).2]) w := by
  cases hs : isSet id L with
  | true =>
   obtain ⟨t, ht, rfl⟩ := isSet_iff.1 hs
   rw [dueA_some h.good ht]
   exact ⟨_, h.lookIn ht w (below_same w)⟩
  | false =>
   rw [dueA_none hs]
   exact ⟨_, h.lookOut hf hs w (below_same w)⟩
 obtain ⟨n2, hlk⟩ := hlk
 generalize (dueA id L).1 = r1 at *
 generalize (dueA id L).2 = r2 at *
 clear h hf
 go_enter Tryz.func86, Tryz.ntmps86
 go_wp2
 go_ret2
 exact ⟨rfl, below_al w _⟩
theorem Wh.min {w : World} {b m : Nat} {a : Option Addr} {c : Nat} {L O : List Th} (h : WhAt w b m a c L O) (h1 : 0 < O.length → tAt O 0 ∈ L) (h0 : 0 < O.length) : IsMin L (tAt O 0) :=
 ⟨h1 h0, fun x hx => by
  obtain ⟨i, hi, e⟩ := mem_tAt (h.all x hx)
  rw [← e]
  exact h.heap.root i hi⟩
theorem Wh.none {w : World} {b m : Nat} {a : Option Addr} {c : Nat} {L O : List Th} (h : WhAt w b m a c L O) (h0 : O.length = 0) : L = [] := by
 have := List.eq_nil_of_length_eq_zero h0
 subst this
 exact List.eq_nil_iff_forall_not_mem.2 (fun x hx => absurd (h.all x hx) List.not_mem_nil)
end Go.Proofs.YthhcecllejddeaaGreatDoor.Wheel

namespace Go.Proofs.YthhcecllejddeaaGreatDoor.Wheel
open Go.RowKit Go.Sort Go.Shelf Go.Maps
theorem WhAt.hpMap {w w2 : World} {b m : Nat} {a : Option Addr} {c : Nat} {L O : List Th} (h : WhAt w b m a c L O) (hm : Mod (fun k => k = m) w w2) : HpAt w2 b m a c O :=
 h.hp.mod hm (fun e => h.mb e.symm) (fun k hk e => h.ma (by rw [← e]; exact hk))
set_option maxRecDepth 100000 in
set_option maxHeartbeats 2000000 in
theorem set_right {w : World} {b : Nat} {F : Nat → Prop} {L : List Th} (h : Wh w b F L) {id due : Int} (hf : FitT (due, id)) (hL : L.length < 4398046511104) :
    Calls Tryz.prog 105 #[.pointer (some ⟨b, 0, none⟩), .int .i64 id, .int .i64 due] w fun e w' => e = .returned (.int .i64 0) ∧ WhOut w b F (setA id due L) w' := by
  have i0 : decide (id < 0) = false := by simpa using hf.2.1
  have i1 : decide (due < 0) = false := by simpa using hf.1.1
  have i2 : 0 ≤ id := hf.2.1
  have i3 : 0 ≤ due := hf.1.1
  obtain ⟨m, a, c, O, h, hfst, hlen, hF, -⟩ := h
  have HW := hd h
  have HFI := hd hf
  have hlenO : O.length < 8796093022208 := by omega
  have hlenL : (setA id due L).length ≤ 4398046511104 := by rw [set_len h.good]; split <;> omega
  clear h hf
  go_enter Tryz.func105, Tryz.ntmps105
  go_upto_region 4 with fail
  obtain ⟨w1, hw1⟩ : ∃ W, Hid (w.alloc (.cells #[.int .i64 due, .int .i64 id] 205) = W) := ⟨_, rfl⟩
  have hB1 : Below w.heap.size w w1 := by rw [← hw1.out]; exact below_al w _
  have x0 : w1.cell? ⟨w.heap.size, 0, none⟩ = some (.int .i64 due) := by rw [← hw1.out]; simp
  have x1 : w1.cell? ⟨w.heap.size, 1, none⟩ = some (.int .i64 id) := by rw [← hw1.out]; simp
  have hne : w.heap.size < w1.heap.size := by rw [← hw1.out]; simp
  rw [hw1.out]
  have hW1 := (HW.out.below hB1).below ((Below.refl _ w1).drew)
  have c0 : w1.cell? ⟨b, 0, none⟩ = some (.map (some m)) := hW1.hp.c0
  obtain ⟨D, m1, m2⟩ := hW1.map
  obtain ⟨w2, hrun, o2, t2⟩ := m1.store lawInt Tryz.underlying207 (by unfold maxLen; omega) (key_int (x := id) ⟨by omega, HFI.out.2.2⟩) (thElem_mk (due, id))
  have hrun : (Instr.mapUpdate 207 (.map (some m)) (.int .i64 id) (.agg #[.int .i64 due, .int .i64 id])).run Tryz.prog w1.drew = .ok () w2 := hrun
  have hM2 : Mod (fun k => k = m) w1.drew w2 := (mod_grown t2.grown).mono (fun k _ e => (Option.some.inj e).symm)
  have hp2 := hW1.hpMap hM2
  have o2' := owns_tight o2
  have m2' := m2.put hW1.good id due
  rw [m2'.size] at o2'
  have hG : w.heap.size ≠ m := by have := HW.out.mlt; omega
  have y0 : w2.cell? ⟨w.heap.size, 0, none⟩ = some (.int .i64 due) := (hM2.cell (p := ⟨w.heap.size, 0, none⟩) hne hG).trans x0
  have y1 : w2.cell? ⟨w.heap.size, 1, none⟩ = some (.int .i64 id) := (hM2.cell (p := ⟨w.heap.size, 1, none⟩) hne hG).trans x1
  have d0 : w2.cell? ⟨b, 0, none⟩ = some (.map (some m)) := hp2.c0
  have hpu := fun W (hb : Below w2.heap.size w2 W) => hpush_any (hp2.below hb) rfl hlenO HW.out.heap (due, id)
  have HM2 : Hid (Mod (wfp b m a) w w2) := hd (((Mod.of_below _ hB1).after ((Below.refl _ w1).drew)).trans hM2 (fun k hk => .inl (.inr (.inl hk))))
  have HO2 := hd o2'
  have HD2 := hd m2'
  have hsz2 : Hid (w.heap.size ≤ w2.heap.size) := hd (Nat.le_trans hB1.size hM2.size)
  clear o2 t2 hM2 o2' m2' m1 m2 hp2 hW1 hB1 hw1
  simp only at hpu
  go_region
  go_upto_region 5 with fail
  have hpd := hpu w2.drew ((Below.refl _ w2).drew)
  obtain ⟨G, hGn⟩ : ∃ G, Hid (w.heap.size = G) := ⟨_, rfl⟩
  rw [hGn.out] at y0 y1 ⊢
  have HKB : Hid (∀ (w3 : World) a' c' O', HpTo w2.drew b m a w3 a' c' O' → w3.cell? ⟨G, 0, none⟩ = some (.int .i64 due) ∧ w3.cell? ⟨G, 1, none⟩ = some (.int .i64 id)) := hd (fun w3 a' c' O' hT => by
    have hl : G < w2.drew.heap.size := World.block_lt_of_cell? w2 _ y0
    have hn : ¬ (G = b ∨ blk a = some G) := fun e => by
      rw [← hGn.out] at e
      rcases e with e | e
      · have := HW.out.hp.blt; omega
      · have := HW.out.hp.lt _ e; omega
    exact ⟨(hT.mod.cell (p := ⟨G, 0, none⟩) hl hn).trans y0, (hT.mod.cell (p := ⟨G, 1, none⟩) hl hn).trans y1⟩)
  have HAT : Hid (∀ (w3 : World) a' c' O', HpTo w2.drew b m a w3 a' c' O' → Heap (tAt O') (O.length + 1) → O'.length = O.length + 1 → (∀ x, x ∈ O' ↔ x ∈ O ∨ x = (due, id)) → WhAt w3 b m a' c' (setA id due L) O' ∧ Mod (wfp b m a) w w3 ∧ ∀ k, blk a' = some k → blk a = some k ∨ w.heap.size ≤ k) := hd (fun w3 a' c' O' hT h1 h2 h3 => by
    have hmk := HO2.out
    have hml : m < w2.drew.heap.size := hmk.lt
    have hmn : ¬ (m = b ∨ blk a = some m) := fun e => by
      rcases e with e | e
      · exact HW.out.mb e
      · exact HW.out.ma e
    refine ⟨⟨hT.hp, ⟨_, owns_kept hmk (hT.mod.block m hml hmn), HD2.out⟩, HW.out.mb, fun e => ?_, HW.out.good.set HFI.out, by rw [h2]; exact h1, fun x hx => ?_, fun x hx => ?_⟩, (HM2.out.after ((Below.refl _ w2).drew)).trans hT.mod (fun k hk => .inl ?_), fun k hk => ?_⟩
    · rcases hT.new m e with h | h
      · exact HW.out.ma h
      · omega
    · rw [h3]
      unfold setA at hx
      rcases List.mem_append.1 hx with h | h
      · exact .inl (HW.out.all x (clr_mem.1 h).1)
      · exact .inr (by simpa using h)
    · rcases (h3 x).1 hx with h | h
      · exact HW.out.fit x h
      · rw [h]; exact HFI.out
    · rcases hk with h | h
      · exact .inl h
      · exact .inr (.inr h)
    · rcases hT.new k hk with h | h
      · exact .inl h
      · exact .inr (Nat.le_trans hsz2.out h))
  clear hpu hrun c0 x0 x1 HO2 HD2 HM2 hG hsz2 d0
  go_region_held3 (fun w' => w'.cell? ⟨G, 0, none⟩ = some (.int .i64 due) ∧ w'.cell? ⟨G, 1, none⟩ = some (.int .i64 id)) (go_keep)
    (first
      | (go_at_call 132; refine hpd.mono ?_; rintro e3 w3 ⟨rfl, a3, c3, O3, hT, h1, h2, h3⟩
         obtain ⟨k0, k1⟩ := HKB.out w3 a3 c3 O3 hT
         obtain ⟨hW3, hM3, hN3⟩ := HAT.out w3 a3 c3 O3 hT h1 h2 h3
         clear hT h1 h2 h3))
  have htd := tidy_any hW3 hlenL
  have HM3 := hd hM3
  have HN3 := hd hN3
  have HSZ := hd hM3.size
  clear hM3 hN3 hW3 HKB HAT hpd
  go_wp2_with (first | (go_at_call 133; refine htd.mono ?_; rintro e4 w4 ⟨rfl, a4, c4, O4, hW4, h5, h6⟩))
  go_ret
  refine ⟨rfl, WhOut.mk' hF (HM3.out.trans hW4.mod (fun k hk => ?_)) hW4.at' h5 h6 (fun k hk => ?_)⟩
  · rcases hk with h | h
    · exact .inl (.inl h)
    · rcases HN3.out k h with h' | h'
      · exact .inl (.inr (.inr h'))
      · exact .inr h'
  · rcases hW4.new k hk with h | h
    · exact HN3.out k h
    · exact .inr (Nat.le_trans HSZ.out h)
set_option maxRecDepth 100000 in
set_option maxHeartbeats 2000000 in
theorem clear_any {w : World} {b : Nat} {F : Nat → Prop} {L : List Th} (h : Wh w b F L) {id : Int} (hf : Fit64 id) (hL : L.length ≤ 4398046511104) :
  Calls Tryz.prog 155 #[.pointer (some ⟨b, 0, none⟩), .int .i64 id] w fun e w' => e = .returned (.bool (isSet id L)) ∧ WhOut w b F (clr id L) w' := by
 obtain ⟨m, a, c, O, h, hfst, hlen, hF, -⟩ := h
 have c0 := h.hp.c0
 have hlk : ∃ n1 n2, (Instr.lookup 207 (.map (some m)) (.int .i64 id) true).run Tryz.prog w = .ok (.tuple #[.agg #[.int .i64 n1, .int .i64 n2], .bool (isSet id L)]) w := by
  cases hs : isSet id L with
  | true =>
   obtain ⟨t, ht, rfl⟩ := isSet_iff.1 hs
   exact ⟨_, _, h.lookIn ht w (below_same w)⟩
  | false => exact ⟨_, _, h.lookOut hf hs w (below_same w)⟩
 obtain ⟨n1, n2, hlk⟩ := hlk
 have hlc : (clr id L).length ≤ L.length := List.length_filter_le _ _
 have HW := hd h
 have HK := hd (key_int hf)
 generalize isSet id L = B at *
 clear h hf
 go_enter Tryz.func155, Tryz.ntmps155
 go_upto_region 2 with fail
 obtain ⟨w1, hw1⟩ : ∃ W, Hid (w.alloc (.cells #[.int .i64 n1, .int .i64 n2] 205) = W) := ⟨_, rfl⟩
 have hB1 : Below w.heap.size w w1 := by rw [← hw1.out]; exact below_al w _
 rw [hw1.out]
 have hW1 := HW.out.below hB1
 have c1 : w1.cell? ⟨b, 0, none⟩ = some (.map (some m)) := hW1.hp.c0
 obtain ⟨D, m1, m2⟩ := hW1.map
 have hdr : ∃ w2, (∀ ty, (Builtin.delete_ #[207, 3] ty #[.map (some m), .int .i64 id]).run Tryz.prog w1 = .ok (.tuple #[]) w2) ∧ WhAt w2 b m a c (clr id L) O ∧ Mod (fun k => k = m) w1 w2 := by
  obtain ⟨w2, hrun, o2, t2⟩ := m1.drop lawInt Tryz.underlying207 HK.out 0
  have hM2 : Mod (fun k => k = m) w1 w2 := (mod_grown t2.grown).mono (fun k _ e => (Option.some.inj e).symm)
  have o2' := owns_tight o2
  have m2' := m2.del hW1.good id
  rw [m2'.size] at o2'
  exact ⟨w2, fun ty => hrun, ⟨hW1.hpMap hM2, ⟨_, o2', m2'⟩, hW1.mb, hW1.ma, hW1.good.clr id, hW1.heap, fun t ht => hW1.all t (clr_mem.1 ht).1, hW1.fit⟩, hM2⟩
 obtain ⟨w2, hrun, hW2, hM2⟩ := hdr
 have htd := tidy_any hW2 (by omega)
 have HM2 : Hid (Mod (wfp b m a) w w2) := hd ((Mod.of_below _ hB1).trans hM2 (fun k hk => .inl (.inr (.inl hk))))
 clear hW2 hM2 m1 m2 hW1 hB1 hw1
 go_wp2_with (first | (go_at_call 133; refine htd.mono ?_; rintro e4 w4 ⟨rfl, a4, c4, O4, hW4, h5, h6⟩))
 go_ret
 refine ⟨rfl, WhOut.mk' hF (HM2.out.trans hW4.mod (fun k hk => .inl ?_)) hW4.at' h5 h6 (fun k hk => ?_)⟩
 ·rcases hk with h | h
  ·exact .inl h
  ·exact .inr (.inr h)
 ·rcases hW4.new k hk with h | h
  ·exact .inl h
  ·exact .inr (Nat.le_trans HM2.out.size h)
end Go.Proofs.YthhcecllejddeaaGreatDoor.Wheel

namespace Go.Proofs.YthhcecllejddeaaGreatDoor.Wheel
open Go.RowKit Go.Sort Go.Shelf Go.Maps
def idC (out : List Th) : List Value := iC (out.map (·.2))
theorem idC_app (o p : List Th) : idC (o ++ p) = idC o ++ idC p := by simp [idC, iC_app]
structure PopTo (w : World) (b : Nat) (F : Nat → Prop) (now : Int) (L : List Th) (w' : World) (out L' : List Th) (a : Option Addr) (c : Nat) : Prop where
 row : Row w' 3 1 a out.length c (idC out)
 new : ∀ k, blk a = some k → w.heap.size ≤ k
 mod : Mod F w w'
 wh : ∃ F', Wh w' b F' L' ∧ (∀ k, F' k → F k ∨ w.heap.size ≤ k) ∧ ∀ k, blk a = some k → ¬ F' k
def PopsOn (now : Int) (L out L1 : List Th) : Prop := ∀ o L2, Pops now L1 o L2 → Pops now L (out ++ o) L2
set_option maxRecDepth 100000 in
set_option maxHeartbeats 2000000 in
theorem wpop_any {w : World} {b : Nat} {F : Nat → Prop} {L : List Th} (h : Wh w b F L) (now : Int) (hL : L.length ≤ 4398046511104) :
  Calls Tryz.prog 137 #[.pointer (some ⟨b, 0, none⟩), .int .i64 now] w fun e w' => ∃ out L' a c, e = .returned (.slice a out.length c) ∧ Pops now L out L' ∧ PopTo w b F now L w' out L' a c := by
 have HP0 : Hid (PopTo w b F now L w [] L none 0 ∧ PopsOn now L [] L) := hd ⟨⟨Row.nil, (fun k hk => by cases hk), Mod.refl _ _, ⟨F, h, (fun k hk => Or.inl hk), (fun k hk => by cases hk)⟩⟩, fun o L2 h => h⟩
 clear h
 obtain ⟨nL, hnL⟩ : ∃ n, Hid (L.length = n) := ⟨_, rfl⟩
 rw [hnL.out] at hL
 go_enter Tryz.func137, Tryz.ntmps137
 go_wp2_with fail
 go_loopg [5] nL (fun k v5 wr => ∃ n a c, v5 = .slice a n c ∧ k + n ≤ nL ∧ Hid (∃ out L1, out.length = n ∧ L1.length = k ∧ PopTo w b F now L wr out L1 a c ∧ PopsOn now L out L1))
 case atStart => exact ⟨0, none, 0, rfl, by omega, hd ⟨[], L, rfl, hnL.out, HP0.out⟩⟩
 case round =>
  obtain ⟨n, a, c, rfl, hkn, HR⟩ := hrel
  clear HP0
  obtain ⟨out, L1, ho, hl1, hP, hPs⟩ := HR.out
  obtain ⟨F1, ⟨m, a1, c1, O, hW, hfst, hlen, hF, hF9⟩, hF1, hF2⟩ := hP.wh
  obtain ⟨nO, hnO⟩ : ∃ n, Hid (O.length = n) := ⟨_, rfl⟩
  have k1 := hW.hp.c1
  have k0 := hW.hp.c0
  rw [hnO.out] at k1
  by_cases h0 : nO = 0
  ·subst h0
   have hno : L1 = [] := Wh.none hW hnO.out
   have HE : Hid (∃ out L' a' c', Ending.returned (.slice a n c) = .returned (.slice a' out.length c') ∧ Pops now L out L' ∧ PopTo w b F now L wr out L' a' c') := hd ⟨out, L1, a, c, by rw [ho], by have := hPs [] L1 (by rw [hno]; exact Pops.none); rwa [List.append_nil] at this, hP⟩
   clear hW hP hPs hl1 ho HR
   go_wp2_with fail
   go_ret
   exact HE.out
  ·have hpos : 0 < nO := by omega
   have hmin := Wh.min hW hfst (by rw [hnO.out]; exact hpos)
   obtain ⟨g, rfl, x0, x1⟩ := row_t hW.hp.row 0 (by rw [hnO.out]; exact hpos)
   obtain ⟨t, ht⟩ : ∃ t, Hid (tAt O 0 = t) := ⟨_, rfl⟩
   rw [ht.out] at x0 x1 hmin
   simp only [Nat.zero_mul, Nat.zero_add] at x0 x1
   have hpos' : (0 : Int) < (nO : Int) := by omega
   clear h0
   by_cases hdue : t.1 ≤ now
   ·have hnm : n < maxLen := by unfold maxLen; omega
    have hrw := hP.row
    rw [ho] at hrw
    obtain ⟨a', c', w2, hap, R2, M2, B2⟩ := push_any (T := 24) (e := 3) (z := .int .i64 0) (size := 1) (bytes := 8) Tryz.underlying24 infoN rfl hrw hnm (by omega) [.int .i64 t.2] rfl (by simp [Value.oneCell'])
    have hap := hd hap
    have hdis : ∀ k, wfp b m (some ⟨g, 0, none⟩) k → ¬ blk a = some k := fun k hk e => hF2 k e (hF k hk)
    have hW2 := (hW.mod M2 hdis).below ((Below.refl _ w2).drew)
    have y0 : w2.cell? ⟨b, 0, none⟩ = some (.map (some m)) := hW2.hp.c0
    have y1 : w2.cell? ⟨b, 1, none⟩ = some (.slice (some ⟨g, 0, none⟩) nO c1) := by have := hW2.hp.c1; rw [hnO.out] at this; exact this
    obtain ⟨g', e', z0, z1⟩ := row_t hW2.hp.row 0 (by rw [hnO.out]; exact hpos)
    cases e'
    rw [ht.out] at z0 z1
    simp only [Nat.zero_mul, Nat.zero_add] at z0 z1
    have z0 : w2.cell? ⟨g, 0, none⟩ = some (.int .i64 t.1) := z0
    have z1 : w2.cell? ⟨g, 1, none⟩ = some (.int .i64 t.2) := z1
    have hdr : ∃ w3, (∀ ty, (Builtin.delete_ #[207, 3] ty #[.map (some m), .int .i64 t.2]).run Tryz.prog w2.drew = .ok (.tuple #[]) w3) ∧ WhAt w3 b m (some ⟨g, 0, none⟩) c1 (clr t.2 L1) O ∧ Mod (fun k => k = m) w2.drew w3 := by
     obtain ⟨D, m1, m2⟩ := hW2.map
     obtain ⟨w3, hrun, o2, t2⟩ := m1.drop lawInt Tryz.underlying207 (key_int (hW.good.fit t hmin.1).id64) 0
     have hM2 : Mod (fun k => k = m) w2.drew w3 := (mod_grown t2.grown).mono (fun k _ e => (Option.some.inj e).symm)
     have o2' := owns_tight o2
     have m2' := m2.del hW2.good t.2
     rw [m2'.size] at o2'
     exact ⟨w3, fun ty => hrun, ⟨hW2.hpMap hM2, ⟨_, o2', m2'⟩, hW2.mb, hW2.ma, hW2.good.clr t.2, hW2.heap, fun t ht => hW2.all t (clr_mem.1 ht).1, hW2.fit⟩, hM2⟩
    obtain ⟨w3, hrun, hW3, hM3⟩ := hdr
    have hcl : (clr t.2 L1).length + 1 = gk := by rw [← hl1]; exact clr_len hW.good (isSet_iff.2 ⟨t, hmin.1, rfl⟩)
    have htd := tidy_any hW3 (by omega)
    have v0 : w3.cell? ⟨b, 0, none⟩ = some (.map (some m)) := hW3.hp.c0
    have HE : Hid (∀ (w4 : World), TidyOut w3 b m (some ⟨g, 0, none⟩) (clr t.2 L1) w4 → ∃ out' L1', out'.length = n + 1 ∧ L1'.length = gk - 1 ∧ PopTo w b F now L w4 out' L1' a' c' ∧ PopsOn now L out' L1') := hd (fun w4 ⟨a4, c4, O4, hW4, h5, h6⟩ => by
     have hsz2 : w.heap.size ≤ w2.heap.size := Nat.le_trans hP.mod.size M2.size
     have hwl : ∀ k, wfp b m (some ⟨g, 0, none⟩) k → F k ∨ w.heap.size ≤ k := fun k hk => hF1 k (hF k hk)
     have hm3 : Mod F w w3 := ((hP.mod.trans M2 (fun k hk => .inr (hP.new k hk))).after ((Below.refl _ w2).drew)).trans hM3 (fun k hk => hwl k (.inr (.inl hk)))
     have hm4 : Mod F w w4 := hm3.trans hW4.mod (fun k hk => hwl k (by
      rcases hk with h | h
      ·exact .inl h
      ·exact .inr (.inr h)))
     have hane : ∀ k, blk a' = some k → ¬ wfp b m (some ⟨g, 0, none⟩) k := fun k hk hw => by
      rcases B2 k hk with h | h
      ·exact hdis k hw h
      ·have := hF9 k (hF k hw); omega
     have hra' : Row w4 3 1 a' (n + 1) c' (idC out ++ [.int .i64 t.2]) := (((R2.below ((Below.refl _ w2).drew)).mod hM3 (fun k hk e => hane k hk (.inr (.inl e)))).mod hW4.mod (fun k hk e => hane k hk (by
      rcases e with h | h
      ·exact .inl h
      ·exact .inr (.inr h))))
     refine ⟨out ++ [t], clr t.2 L1, by simp [ho], by omega, ⟨?_, fun k hk => ?_, hm4, wfp b m a4, ⟨m, a4, c4, O4, hW4.at', h5, h6, fun _ h => h, hW4.at'.lt⟩, fun k hk => ?_, fun k hk hw => ?_⟩, fun o L2 ho2 => ?_⟩
     ·rw [idC_app]
      have : (out ++ [t]).length = n + 1 := by simp [ho]
      rw [this]
      exact hra'
     ·rcases B2 k hk with h | h
      ·exact hP.new k h
      ·exact Nat.le_trans hP.mod.size h
     ·rcases hk with h | h | h
      ·exact hwl k (.inl h)
      ·exact hwl k (.inr (.inl h))
      ·rcases hW4.new k h with h' | h'
       ·exact hwl k (.inr (.inr h'))
       ·exact .inr (Nat.le_trans hm3.size h')
     ·rcases hw with h | h | h
      ·exact hane k hk (.inl h)
      ·exact hane k hk (.inr (.inl h))
      ·rcases hW4.new k h with h' | h'
       ·exact hane k hk (.inr (.inr h'))
       ·have h8 := R2.lt k hk
        have h9 : w2.heap.size ≤ w3.heap.size := hM3.size
        omega
     ·rw [List.append_assoc]
      exact hPs _ _ (Pops.one hmin hdue ho2))
    obtain ⟨t1, t2⟩ := t
    simp only at x0 x1 z0 z1 hdue hap hrun HE htd hcl
    clear hW hP hPs hl1 ho HR hmin hW2 hW3 hM3 R2 M2 B2 hdis hrw
    go_upto_region 4 with (first | (at_builtin; refine wpList_append_run rfl _ _ _ rfl _ _ _ _ rfl rfl hap.out ?_))
    clear hap x0 x1 k0 k1
    go_region
    all_goals clear hrun z0 z1 y0 y1
    all_goals go_wp2_with (first | (go_at_call 133; refine htd.mono ?_; rintro e4 w4 ⟨rfl, h4⟩))
    all_goals go_roundg (gk - 1)
    all_goals first
     | (case measure => omega)
     | (case rel => exact ⟨n + 1, a', c', rfl, by omega, hd (HE.out _ h4)⟩)
   ·have hlate : now < t.1 := by omega
    have hld : decide (t.1 ≤ now) = false := by simpa using hdue
    have HE : Hid (∃ out L' a' c', Ending.returned (.slice a n c) = .returned (.slice a' out.length c') ∧ Pops now L out L' ∧ PopTo w b F now L wr out L' a' c') := hd ⟨out, L1, a, c, by rw [ho], by have := hPs [] L1 (Pops.late hmin hlate); rwa [List.append_nil] at this, hP⟩
    obtain ⟨t1, t2⟩ := t
    simp only at x0 x1 hld
    clear hW hP hPs hl1 ho HR hmin hdue hlate
    go_wp2_with fail
    go_ret
    exact HE.out
end Go.Proofs.YthhcecllejddeaaGreatDoor.Wheel
