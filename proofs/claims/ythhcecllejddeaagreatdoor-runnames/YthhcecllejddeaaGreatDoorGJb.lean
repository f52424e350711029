/- may, Waits, copied, Index. -/
import Derived.Test.YthhcecllejddeaaGreatDoorGJa
namespace Go.Proofs.YthhcecllejddeaaGreatDoor.Locks
open Go.RowKit Go.Maps
theorem may_any {w : World} {X : List Value} {b : Nat} {ao : Option Addr} {co : Nat} {aq : Option Addr} {cq : Nat} {os : List Int} {es : List Qe} (h : LB w 203 X b ao co aq cq os es) (lock p : Int) :
  Calls Tryz.prog 237 #[.pointer (some ⟨b, 0, none⟩), .int .i64 lock, .int .i64 p] w fun e w' => e = .returned (.int .i64 (mayE os.length lock p)) ∧ w' = w := by
 have c0 := h.c0
 clear h
 unfold mayE
 generalize os.length = n at *
 by_cases h1 : lock < 0
 ·rw [if_pos (.inl h1)]
  go_enter Tryz.func237, Tryz.ntmps237
  go_wp2
  go_ret
  exact ⟨rfl, rfl⟩
 ·have h1' : decide (lock < 0) = false := by simpa using h1
  by_cases h2 : (n : Int) ≤ lock
  ·rw [if_pos (.inr h2)]
   clear h1
   go_enter Tryz.func237, Tryz.ntmps237
   go_wp2
   go_ret
   exact ⟨rfl, rfl⟩
  ·have h2' : decide ((n : Int) ≤ lock) = false := by simpa using h2
   rw [if_neg (by omega)]
   by_cases h3 : p < 0
   ·rw [if_pos h3]
    clear h1 h2
    go_enter Tryz.func237, Tryz.ntmps237
    go_wp2
    go_ret
    exact ⟨rfl, rfl⟩
   ·have h3' : decide (p < 0) = false := by simpa using h3
    rw [if_neg h3]
    clear h1 h2 h3
    go_enter Tryz.func237, Tryz.ntmps237
    go_wp2
    go_ret
    exact ⟨rfl, rfl⟩
theorem waits_any {w : World} {b m : Nat} {ao : Option Addr} {co : Nat} {aq : Option Addr} {cq : Nat} {os : List Int} {es : List Qe} {f : Int → Option Int} {n : Nat} (h : LM w b m ao co aq cq os es f n) {p : Int} (hp : Fit64 p) :
  Calls Tryz.prog 174 #[.pointer (some ⟨b, 0, none⟩), .int .i64 p] w fun e w' => e = .returned (.tuple #[.int .i64 ((f p).getD 0), .bool (f p).isSome]) ∧ w' = w := by
 have c2 := h.lb.c2
 have hl := h.map.look hp
 clear h
 generalize (f p).getD 0 = r1 at *
 generalize (f p).isSome = r2 at *
 go_enter Tryz.func174, Tryz.ntmps174
 go_wp2
 go_ret2
 exact ⟨rfl, rfl⟩
theorem copied_any {w : World} {a : Option Addr} {n c : Nat} {xs : List Value} (hR : Rd w a xs) (hl : xs.length = n) (h1 : ∀ u ∈ xs, u.oneCell' = true) (hn : n ≤ 8796093022208) :
  Calls Tryz.prog 115 #[.slice a n c] w fun e w' => ∃ a' c', e = .returned (.slice a' n c') ∧ Row w' 3 1 a' n c' xs ∧ Below w.heap.size w w' ∧ ∀ k, blk a' = some k → w.heap.size ≤ k := by
 obtain ⟨i, k1, k2, k3, k4⟩ := info_parts infoN
 obtain ⟨a', c', w', m1, m2, m3, m4, _⟩ := run_append_row (P := Tryz.prog) w 24 3 i _ 1 8 Tryz.underlying24 k1 k2 k3 k4 rfl (Row.nil (w := w) (e := 3) (size := 1)) (.slice a n c) n xs (hR.src Tryz.underlying24 (by omega) (by omega) h1) (by unfold maxLen; omega) (by omega)
 simp only [Nat.zero_add, List.nil_append] at m1 m2
 have HB := hd (m3.below (Nat.le_refl _) (fun k _ h => by cases h))
 have HR2 := hd m2
 have HN : Hid (∀ k, blk a' = some k → w.heap.size ≤ k) := hd (fun k hk => by
  rcases m4 k hk with h | h
  ·cases h
  ·exact h)
 have hap := hd m1
 clear m1 m2 m3 m4 hR h1 hl
 go_enter Tryz.func115, Tryz.ntmps115
 go_wp2_with (first | (at_builtin; refine wpList_append_run rfl _ _ _ rfl _ _ _ _ rfl rfl hap.out ?_; clear hap))
 go_ret
 exact ⟨_, _, rfl, HR2.out, HB.out, HN.out⟩
def idxF (p : Int) : List Int → Nat → Int
 | [], _ => -1
 | x :: r, k => if p = x then (k : Int) else idxF p r (k + 1)
theorem idxF_drop {p : Int} {q : List Int} {k : Nat} (hk : k < q.length) : idxF p (q.drop k) k = if p = q.getD k 0 then (k : Int) else idxF p (q.drop (k + 1)) (k + 1) := by
 rw [List.drop_eq_getElem_cons hk, idxF, List.getD_eq_getElem?_getD, List.getElem?_eq_getElem hk]
 rfl
theorem idxF_mem {p : Int} {q : List Int} {k : Nat} (h : p ∈ q) : ∃ j, j < q.length ∧ q.getD j 0 = p ∧ idxF p q k = ((k + j : Nat) : Int) := by
 induction q generalizing k with
 | nil => cases h
 | cons x r ih =>
  unfold idxF
  by_cases e : p = x
  ·exact ⟨0, by simp, by simp [e], by rw [if_pos e]; simp⟩
  ·have hr : p ∈ r := by
    rcases List.mem_cons.1 h with h | h
    ·exact absurd h e
    ·exact h
   obtain ⟨j, h1, h2, h3⟩ := ih (k := k + 1) hr
   refine ⟨j + 1, by simpa using h1, by simpa using h2, ?_⟩
   rw [if_neg e, h3]
   congr 1
   omega
theorem _root_.Go.Proofs.YthhcecllejddeaaGreatDoor.Rd.int {w : World} {a : Option Addr} {q : List Int} (h : Rd w a (iC q)) (i : Nat) (hi : i < q.length) : ∃ g o, a = some ⟨g, o, none⟩ ∧ w.cell? ⟨g, o + i, none⟩ = some (.int .i64 (q.getD i 0)) := by
 obtain ⟨g, o, h1, h2⟩ := h i _ (iC_at q i hi 0)
 exact ⟨g, o, h1, h2⟩
set_option maxRecDepth 100000 in
set_option maxHeartbeats 1000000 in
theorem index_any {w : World} {a : Option Addr} {c n : Nat} {q : List Int} (hR : Rd w a (iC q)) (hN : Hid (q.length = n)) (hn : n ≤ 8796093022208) (p : Int) :
  Calls Tryz.prog 238 #[.slice a n c, .int .i64 p] w fun e w' => e = .returned (.int .i64 (idxF p q 0)) ∧ w' = w := by
 have HR := hd hR
 obtain ⟨R, hRes⟩ : ∃ R, Hid (idxF p q 0 = R) := ⟨_, rfl⟩
 rw [hRes.out]
 clear hR
 go_enter Tryz.func238, Tryz.ntmps238
 go_wp2_with fail
 go_loopg [5, 8, 9, 10, 11, 12, 13, 14, 15, 16, 18] n (fun k v5 v8 v9 v10 v11 v12 v13 v14 v15 v16 v18 wr => ∃ i : Nat, i + k = n ∧ v8 = .int .i64 (i : Int) ∧ wr = w ∧ Hid (idxF p (q.drop i) i = R))
 case atStart => exact ⟨0, by omega, by go_num, rfl, hd (by simpa using hRes.out)⟩
 case round =>
  obtain ⟨i, hik, rfl, rfl, HE⟩ := hrel
  by_cases h0 : gk = 0
  ·subst h0
   have hi : i = n := by omega
   obtain rfl : R = -1 := by rw [← HE.out, List.drop_of_length_le (by rw [hN.out]; omega)]; rfl
   subst hi
   clear hRes HE hik
   go_wp2_with fail
   go_ret
   exact ⟨rfl, rfl⟩
  ·have hlt : i < n := by omega
   obtain ⟨g, o, rfl, hc⟩ := HR.out.int i (by rw [hN.out]; exact hlt)
   have HS := idxF_drop (p := p) (q := q) (k := i) (by rw [hN.out]; exact hlt)
   obtain ⟨x, hx⟩ : ∃ x, Hid (q.getD i 0 = x) := ⟨_, rfl⟩
   rw [hx.out] at hc HS
   by_cases he : p = x
   ·subst he
    rw [if_pos rfl] at HS
    obtain rfl : R = (i : Int) := by rw [← HE.out, HS]
    clear HS hRes HE hik
    go_wp2_with fail
    go_ret
    exact ⟨rfl, rfl⟩
   ·have he' : (p == x) = false := by simpa using he
    rw [if_neg he] at HS
    have HE2 : Hid (idxF p (q.drop (i + 1)) (i + 1) = R) := hd (by rw [← HS]; exact HE.out)
    clear HS HE he hRes
    go_wp2_with fail
    go_roundg (gk - 1)
    case rel => exact ⟨i + 1, by omega, by go_num, rfl, HE2⟩
    case measure => omega
end Go.Proofs.YthhcecllejddeaaGreatDoor.Locks

namespace Go.Proofs.YthhcecllejddeaaGreatDoor.Locks
open Go.RowKit Go.Maps
set_option maxRecDepth 100000 in
set_option maxHeartbeats 1000000 in
theorem cut_any {w : World} {e : Qe} (h : Qw w e) {k n : Nat} (hN : Hid (e.2.2.length = n)) (hk : k < n) (hn : n ≤ 8796093022208) :
  Calls Tryz.prog 242 #[.slice e.1 n e.2.1, .int .i64 (k : Int)] w fun r w' => ∃ e' : Qe, r = .returned (sV e') ∧ e'.2.2 = e.2.2.take k ++ e.2.2.drop (k + 1) ∧ Qw w' e' ∧ Mod (fun j => blk e.1 = some j) w w' ∧ ∀ j, blk e'.1 = some j → blk e.1 = some j ∨ w.heap.size ≤ j := by
 obtain ⟨a, c, q⟩ := e
 simp only at hN h ⊢
 have h' : Ro w 3 a q.length c (iC q) := h
 rw [hN.out] at h'
 obtain ⟨g, o, rfl, hc0⟩ := h'.rd.int 0 (by rw [hN.out]; omega)
 have hcap := h'.capLe
 have HR := hd h'
 clear h' h hc0
 go_enter Tryz.func242, Tryz.ntmps242
 go_upto_region 1 with fail
 go_region
 obtain ⟨A, hA⟩ : ∃ A, Hid ((if n = k + 1 then some ({ block := g, off := o } : Addr) else some { block := g, off := o + (k + 1) }) = A) := ⟨_, rfl⟩
 obtain ⟨M, hM⟩ : ∃ M, Hid (n - (k + 1) = M) := ⟨_, rfl⟩
 rw [hA.out, hM.out]
 have HB : Hid (Ro w 3 A M M (iC (q.drop (k + 1)))) := hd (by
  by_cases e : n = k + 1
  ·rw [← hA.out, if_pos e, ← hM.out, List.drop_of_length_le (by rw [hN.out]; omega), e, Nat.sub_self]
   exact HR.out.none'
  ·rw [← hA.out, if_neg e, ← hM.out, ← iC_drop]
   exact HR.out.behind (k + 1) (by omega))
 have hblk : ∀ j, blk A = some j → blk (some ({ block := g, off := o } : Addr)) = some j := fun j hj => by
  rw [← hA.out] at hj
  split at hj
  ·exact hj
  ·exact hj
 have HBK := hd hblk
 have hlen : M + k + 1 = n := by rw [← hM.out]; omega
 clear hblk hA
 by_cases h0 : k = 0
 ·subst h0
  go_wp2_with fail
  go_ret
  refine ⟨(A, M, q.drop 1), ?_, by simp, ?_, Mod.of_below _ ((Below.refl _ w).drew), fun j hj => .inl (HBK.out j hj)⟩
  ·unfold sV
   simp only [List.length_drop, hN.out]
   rw [show n - 1 = M by omega]
   rfl
  ·have := HB.out
   unfold Qw
   simp only [List.length_drop, hN.out]
   rw [show n - 1 = M by omega]
   exact this.below ((Below.refl _ w).drew)
 ·obtain ⟨i, k1, k2, k3, k4⟩ := info_parts infoN
  have hne : ((k : Int) == 0) = false := by simp; omega
  have hah := (HR.out.ahead k (by omega)).below ((Below.refl _ w).drew)
  rw [iC_take] at hah
  obtain ⟨a', c', w', m1, m2, m3, m4⟩ := run_append_ro (P := Tryz.prog) w.drew 24 3 i _ 8 Tryz.underlying24 k1 k2 k3 k4 rfl hah (.slice A M M) M _ (((HB.out.below ((Below.refl _ w).drew)).rd).src Tryz.underlying24 (by rw [HB.out.len]; omega) (by omega) (iC_one _)) (by unfold maxLen; omega) (by omega)
  have hap := hd m1
  rw [← iC_app] at m2
  have HQ : Hid (Qw w' (a', c', q.take k ++ q.drop (k + 1))) := hd (by
   unfold Qw
   simp only [List.length_append, List.length_take, List.length_drop, hN.out]
   rw [show min k n + (n - (k + 1)) = k + M by omega]
   exact m2)
  have HM : Hid (Mod (fun j => blk (some ({ block := g, off := o } : Addr)) = some j) w w') := hd ((Mod.of_below _ ((Below.refl _ w).drew)).trans m3 (fun _ h => .inl h))
  have HN4 : Hid (∀ j, blk a' = some j → blk (some ({ block := g, off := o } : Addr)) = some j ∨ w.heap.size ≤ j) := hd m4
  have HLen : Hid (∀ x : Int, (q.take k ++ q.drop (k + 1)).length = k + M) := hd (fun _ => by
   simp only [List.length_append, List.length_take, List.length_drop, hN.out]
   omega)
  clear m1 m2 m3 m4 hah h0
  go_wp2_with (first | (at_builtin; refine wpList_append_run rfl _ _ _ rfl _ _ _ _ rfl rfl hap.out ?_; clear hap))
  go_ret
  refine ⟨(a', c', q.take k ++ q.drop (k + 1)), ?_, rfl, HQ.out, HM.out, HN4.out⟩
  unfold sV
  simp only [HLen.out 0]
  rfl
section
variable {w w' : World} {b m : Nat} {ao : Option Addr} {co : Nat} {aq : Option Addr} {cq : Nat} {os : List Int} {es : List Qe} {f : Int → Option Int} {n : Nat}
theorem mfp_set {i : Nat} {e' : Qe} {B : Nat} (hi : i < es.length) (hn : ∀ j, blk e'.1 = some j → blk (eAt es i).1 = some j ∨ B ≤ j) : ∀ k, mfp b m ao aq (es.set i e') k → mfp b m ao aq es k ∨ B ≤ k := fun k hk => by
 rcases hk with hk | hk | hk | hk | ⟨j, hj, hk⟩
 ·exact .inl (.inl hk)
 ·exact .inl (.inr (.inl hk))
 ·exact .inl (.inr (.inr (.inl hk)))
 ·exact .inl (.inr (.inr (.inr (.inl hk))))
 ·rw [List.length_set] at hj
  rw [eAt_set hi] at hk
  split at hk
  ·rcases hn k hk with h1 | h1
   ·exact .inl (.inr (.inr (.inr (.inr ⟨i, hi, h1⟩))))
   ·exact .inr h1
  ·exact .inl (.inr (.inr (.inr (.inr ⟨j, hj, hk⟩))))
theorem LM.setO {g : Nat} (h : LM w b m (some ⟨g, 0, none⟩) co aq cq os es f n) (i : Nat) (v : Int) : LM (w.setCell ⟨g, i, none⟩ (.int .i64 v)) b m (some ⟨g, 0, none⟩) co aq cq (os.set i v) es f n := by
 have hm : Mod (fun k => k = g) w (w.setCell ⟨g, i, none⟩ (.int .i64 v)) := (Mod.refl (fun k => k = g) w).setCell (.inl rfl) _
 exact ⟨h.lb.setO i v, h.map.mod hm (fun e => h.ap (.inr (.inl (by rw [e]; rfl)))), h.ap⟩
theorem LM.setQ {g : Nat} (h : LM w b m ao co (some ⟨g, 0, none⟩) cq os es f n) {i : Nat} (hi : i < es.length) {w2 : World} (hm : Mod (fun k => blk (eAt es i).1 = some k) w w2) {e' : Qe} (hq : Qw w2 e') (hn : ∀ k, blk e'.1 = some k → blk (eAt es i).1 = some k ∨ w.heap.size ≤ k) :
  LM (w2.setCell ⟨g, i, none⟩ (sV e')) b m ao co (some ⟨g, 0, none⟩) cq os (es.set i e') f n ∧ Mod (mfp b m ao (some ⟨g, 0, none⟩) es) w (w2.setCell ⟨g, i, none⟩ (sV e')) := by
 have hm2 : Mod (fun k => k = g) w2 (w2.setCell ⟨g, i, none⟩ (sV e')) := (Mod.refl (fun k => k = g) w2).setCell (.inl rfl) _
 refine ⟨⟨h.lb.setQ hi hm hq hn, ?_, fun e => ?_⟩, (hm.mono (fun k _ hk => .inr (.inr (.inr (.inr ⟨i, hi, hk⟩))))).trans hm2 (fun k hk => .inl (.inr (.inr (.inr (.inl (by rw [hk]; rfl))))))⟩
 ·exact (h.map.mod hm (fun e => h.ap (.inr (.inr (.inr ⟨i, hi, e⟩))))).mod hm2 (fun e => h.ap (.inr (.inr (.inl (by rw [e]; rfl)))))
 ·rcases mfp_set (b := b) (m := m) (ao := ao) (aq := some ⟨g, 0, none⟩) hi hn m (.inr e) with h1 | h1
  ·rcases h1 with h1 | h1
   ·rcases e with e | e | e | ⟨j, hj, e⟩
    ·exact h.ap (.inl e)
    ·exact h.ap (.inr (.inl e))
    ·exact h.ap (.inr (.inr (.inl e)))
    ·rw [List.length_set] at hj
     rw [eAt_set hi] at e
     split at e
     ·rcases hn m e with h2 | h2
      ·exact h.ap (.inr (.inr (.inr ⟨i, hi, h2⟩)))
      ·have := h.map.lt; omega
     ·exact h.ap (.inr (.inr (.inr ⟨j, hj, e⟩)))
   ·exact h.ap h1
  ·have := h.map.lt; omega
end
def LeaveTo (w : World) (b m : Nat) (ao : Option Addr) (co : Nat) (aq : Option Addr) (cq : Nat) (os : List Int) (es : List Qe) (f : Int → Option Int) (n : Nat) (i : Nat) (p : Int) (w' : World) : Prop :=
 ∃ e' : Qe, LM w' b m ao co aq cq os (es.set i e') (fun x => if x = p then none else f x) (if (f p).isSome then n - 1 else n) ∧ e'.2.2 = (eAt es i).2.2.filter (fun x => decide (x ≠ p)) ∧ Mod (mfp b m ao aq es) w w' ∧ ∀ k, mfp b m ao aq (es.set i e') k → mfp b m ao aq es k ∨ w.heap.size ≤ k
set_option maxRecDepth 100000 in
set_option maxHeartbeats 2000000 in
theorem leave_any {w : World} {b m : Nat} {ao : Option Addr} {co : Nat} {aq : Option Addr} {cq : Nat} {os : List Int} {es : List Qe} {f : Int → Option Int} {n : Nat} (h : LM w b m ao co aq cq os es f n) {i : Nat} (hi : i < es.length) {p : Int} (hf : Fit64 p) (hp : p ∈ (eAt es i).2.2) (hnd : (eAt es i).2.2.Nodup) (hln : (eAt es i).2.2.length ≤ 8796093022208) :
    Calls Tryz.prog 200 #[.pointer (some ⟨b, 0, none⟩), .int .i64 (i : Int), .int .i64 p] w fun e w' => e = .returned (.tuple #[]) ∧ LeaveTo w b m ao co aq cq os es f n i p w' := by
  have c1 := h.lb.c1
  obtain ⟨g, rfl, hc⟩ := h.lb.queue i hi
  obtain ⟨j, hj, hjp, hix⟩ := idxF_mem (k := 0) hp
  have hd1 : Below w.heap.size w w.drew := (Below.refl _ w).drew
  have hqd := (h.lb.qs i hi).below hd1
  obtain ⟨ln, hN⟩ : ∃ ln, Hid ((eAt es i).2.2.length = ln) := ⟨_, rfl⟩
  have hidx := index_any (c := (eAt es i).2.1) hqd.rd hN (by rw [← hN.out]; exact hln) p
  rw [hix] at hidx
  have hcut := cut_any hqd hN (k := j) (by rw [← hN.out]; exact hj) (by rw [← hN.out]; exact hln)
  rw [hN.out] at hc hj hln
  rw [Nat.zero_add] at hidx
  obtain ⟨nq, hNQ⟩ : ∃ nq, Hid (es.length = nq) := ⟨_, rfl⟩
  rw [hNQ.out] at c1 hi
  have hgb : g ≠ b := fun e => h.lb.bq (by rw [e]; rfl)
  have HCU := hd (filter_cut hnd (by rw [hN.out]; exact hj) hjp)
  have HST : Hid (∀ (wz : World) (e' : Qe), Qw wz e' → Mod (fun j => blk (eAt es i).1 = some j) w.drew wz → (∀ j, blk e'.1 = some j → blk (eAt es i).1 = some j ∨ w.drew.heap.size ≤ j) →
      wz.cell? ⟨b, 1, none⟩ = some (.slice (some ⟨g, 0, none⟩) nq cq) ∧ (∃ u, wz.cell? ⟨g, i, none⟩ = some u) ∧ wz.frozen? ⟨g, i, none⟩ = false ∧
      LM (wz.setCell ⟨g, i, none⟩ (sV e')) b m ao co (some ⟨g, 0, none⟩) cq os (es.set i e') f n ∧ Mod (mfp b m ao (some ⟨g, 0, none⟩) es) w (wz.setCell ⟨g, i, none⟩ (sV e')) ∧ ∀ k, mfp b m ao (some ⟨g, 0, none⟩) (es.set i e') k → mfp b m ao (some ⟨g, 0, none⟩) es k ∨ w.heap.size ≤ k) := hd (fun wz e' h1 h2 h3 => by
    have hi' : i < es.length := by rw [hNQ.out]; exact hi
    have hbn := h.lb.qb i hi'
    have hdd := h.below hd1
    have hgl : g < w.drew.heap.size := hdd.lb.rq.lt g rfl
    obtain ⟨s1, s2⟩ := hdd.setQ hi' h2 h1 h3
    refine ⟨?_, ⟨_, (h2.cell (p := ⟨g, i, none⟩) hgl (fun e => (hbn g e).2.2 rfl)).trans hc⟩, ?_, s1, (Mod.of_below _ hd1).trans s2 (fun _ h => .inl h), mfp_set hi' h3⟩
    · rw [h2.cell (p := ⟨b, 1, none⟩) hdd.lb.blt (fun e => (hbn b e).1 rfl)]
      exact c1
    · rw [h2.frozen (p := ⟨g, i, none⟩) hgl (fun e => (hbn g e).2.2 rfl)]
      exact h.lb.freeQ i)
  have hcell : ∀ (W : World) (u : Value), (W.setCell ⟨g, i, none⟩ u).cell? ⟨b, 1, none⟩ = W.cell? ⟨b, 1, none⟩ := fun W u => World.cell?_of_block (w := W) (Below.heap_setCell _ _ _ _ (fun e => hgb e.symm))
  have HDR : Hid (∀ W : World, LM W b m ao co (some ⟨g, 0, none⟩) cq os es f n → True) := hd (fun _ _ => trivial)
  clear hqd hix hjp hp hnd h HDR
  go_enter Tryz.func200, Tryz.ntmps200
  go_upto_region 1 with fail
  go_region_held3 (fun w' => w'.cell? ⟨b, 1, none⟩ = some (.slice (some ⟨g, 0, none⟩) nq cq)) (go_keep)
    (first
      | (go_at_call 238; refine hidx.mono ?_; rintro e3 w3 ⟨rfl, rfl⟩)
      | (go_at_call 242; refine hcut.mono ?_; rintro e3 w3 ⟨⟨a', c', q'⟩, rfl, hq1, hq2, hq3, hq4⟩
         obtain ⟨s1, ⟨u0, s2⟩, s3, HL, HM, HF⟩ := HST.out w3 (a', c', q') hq2 hq3 hq4
         simp only [sV] at HL HM HF ⊢
         replace HL := hd HL
         replace HM := hd HM
         replace HF := hd HF
         replace hq1 := hd hq1
         clear hq2 hq3 hq4))
  obtain ⟨w4, hw4⟩ : ∃ W, Hid (w3.setCell ⟨g, i, none⟩ (.slice a' q'.length c') = W) := ⟨_, rfl⟩
  rw [hw4.out] at HL HM ⊢
  have c2 := HL.out.lb.c2
  obtain ⟨w5, hrun, hM5, hA5⟩ := HL.out.map.drop hf
  have HE : Hid (LeaveTo w b m ao co (some ⟨g, 0, none⟩) cq os es f n i p w5) := hd ⟨(a', c', q'), HL.out.turn hM5 hA5, hq1.out.trans HCU.out.symm, HM.out.trans hM5 (fun k hk => .inl (.inl hk)), HF.out⟩
  clear hM5 hA5 HL HM HF hq1 HST HCU hidx hcut
  go_wp2_with fail
  go_end0
  exact ⟨rfl, HE.out⟩
end Go.Proofs.YthhcecllejddeaaGreatDoor.Locks

namespace Go.Proofs.YthhcecllejddeaaGreatDoor.Locks
open Go.RowKit Go.Maps
def LT (w : World) (b m : Nat) (ao : Option Addr) (co : Nat) (aq : Option Addr) (cq : Nat) (es : List Qe) (os' : List Int) (qs' : Qs) (w' : World) : Prop :=
 ∃ es', LM w' b m ao co aq cq os' es' (wtI qs') (total qs') ∧ qsOf es' = qs' ∧ Mod (mfp b m ao aq es) w w' ∧ ∀ k, mfp b m ao aq es' k → mfp b m ao aq es k ∨ w.heap.size ≤ k
theorem leave_LT {w w' : World} {b m : Nat} {ao : Option Addr} {co : Nat} {aq : Option Addr} {cq : Nat} {os : List Int} {es : List Qe} {qs : Qs} (hG : GoodL os qs) (hq : qsOf es = qs) {i : Nat} {p : Int} (hp : p ∈ qAt qs i) (h : LeaveTo w b m ao co aq cq os es (wtI qs) (total qs) i p w') : LT w b m ao co aq cq es os (leaveQ qs i p) w' := by
 obtain ⟨e', h1, h2, h3, h4⟩ := h
 have hi : i < qs.length := qAt_lt hp
 have hqe : qsOf (es.set i e') = leaveQ qs i p := by
  rw [qsOf_set, h2, hq, leaveQ, ← hq, qAt_of]
 refine ⟨es.set i e', ?_, hqe, h3, h4⟩
 have hs : (wtI qs p).isSome = true := by rw [wtI_some hG.once hp]; rfl
 rw [hs, if_pos rfl] at h1
 have ht : total (leaveQ qs i p) = total qs - 1 := by
  obtain ⟨j, hj, hjp⟩ := List.getElem_of_mem hp
  have e := filter_cut (hG.nd i) (p := p) (k := j) hj (by rw [List.getD_eq_getElem?_getD, List.getElem?_eq_getElem hj]; exact hjp)
  have := total_set hi ((qAt qs i).filter (fun x => decide (x ≠ p)))
  rw [e] at this
  unfold leaveQ
  rw [e]
  simp only [List.length_append, List.length_take, List.length_drop] at this
  omega
 rw [ht]
 refine ⟨h1.lb, h1.map.congr (fun x => ?_), h1.ap⟩
 rw [wtI_leave hG hp]
set_option maxRecDepth 100000 in
set_option maxHeartbeats 2000000 in
theorem hand_any {w : World} {b m : Nat} {ao : Option Addr} {co : Nat} {aq : Option Addr} {cq : Nat} {os : List Int} {es : List Qe} {qs : Qs} (h : LM w b m ao co aq cq os es (wtI qs) (total qs)) (hG : GoodL os qs) (hq : qsOf es = qs) {i : Nat} (hi : i < os.length) (ht : total qs ≤ 8796093022208) :
  Calls Tryz.prog 201 #[.pointer (some ⟨b, 0, none⟩), .int .i64 (i : Int)] w fun e w' => e = .returned (.tuple #[]) ∧ LT w b m ao co aq cq es (handO os qs i) (handQ qs i) w' := by
 have hn := hG.n
 have hel : es.length = os.length := by rw [← hn, ← hq, qsOf_len]
 have hie : i < es.length := by omega
 have c0 := h.lb.c0
 have c1 := h.lb.c1
 obtain ⟨go, rfl, co1⟩ := h.lb.owner i hi
 obtain ⟨g, rfl, cq1⟩ := h.lb.queue i hie
 have hqa : qAt qs i = (eAt es i).2.2 := by rw [← hq, qAt_of]
 have hfr := h.lb.freeO i
 have hln : (eAt es i).2.2.length ≤ 8796093022208 := by rw [← hqa]; exact Nat.le_trans (total_le i) ht
 have hrd := (h.lb.qs i hie).rd
 have hmo : ∀ v, Mod (mfp b m (some ⟨go, 0, none⟩) (some ⟨g, 0, none⟩) es) w (w.setCell ⟨go, i, none⟩ v) := fun v => (Mod.refl _ w).setCell (.inl (.inr (.inr (.inl rfl)))) v
 have HL := hd h
 have HG := hd hG
 have HQ := hd hq
 have HQA := hd hqa
 have HEL := hd hel
 obtain ⟨no, hNO⟩ : ∃ no, Hid (os.length = no) := ⟨_, rfl⟩
 obtain ⟨nq, hNQ⟩ : ∃ nq, Hid (es.length = nq) := ⟨_, rfl⟩
 have hnn : no = nq := by rw [← hNO.out, ← hNQ.out]; exact hel.symm
 have hno8 : no ≤ 8 := by rw [← hNO.out]; exact hG.le
 subst hnn
 rw [hNO.out] at c0 hi
 rw [hNQ.out] at c1
 rw [hNQ.out] at hie
 have HMO := hd hmo
 clear h hG hq hel hn hmo hqa
 cases hqc : (eAt es i).2.2 with
 | nil =>
  have HE : Hid (LT w b m (some ⟨go, 0, none⟩) co (some ⟨g, 0, none⟩) cq es (handO os qs i) (handQ qs i) (w.setCell ⟨go, i, none⟩ (.int .i64 (-1)))) := hd (by
   have e1 : handQ qs i = qs := by
    unfold handQ
    rw [HQA.out, hqc]
    show qs.set i [] = qs
    rw [← HQ.out]
    apply List.ext_getElem?
    intro j
    rw [List.getElem?_set]
    split
    ·rename_i e
     subst e
     have hl : i < (qsOf es).length := by rw [qsOf_len, hNQ.out]; exact hie
     rw [if_pos hl]
     have := qAt_of es i
     rw [hqc] at this
     unfold qAt at this
     rw [List.getD_eq_getElem?_getD, List.getElem?_eq_getElem hl] at this
     rw [List.getElem?_eq_getElem hl]
     simp at this
     rw [this]
    ·rfl
   have e2 : handO os qs i = os.set i (-1) := by unfold handO; rw [HQA.out, hqc]; rfl
   rw [e1, e2]
   exact ⟨es, HL.out.setO i (-1), HQ.out, HMO.out _, fun k hk => .inl hk⟩)
  rw [hqc] at cq1
  simp only [List.length_nil] at cq1
  clear HL HG HQ HQA HEL hrd hln hqc HMO hNO hNQ
  go_enter Tryz.func201, Tryz.ntmps201
  go_wp2
  refine bodyPost_ret (results_none rfl _ _ _) rfl ?_
  exact ⟨rfl, HE.out⟩
 | cons x r =>
  rw [hqc] at cq1 hln hrd
  obtain ⟨gx, ox, hax, cx⟩ := hrd.int 0 (by simp)
  simp only [List.getD_cons_zero, Nat.add_zero] at cx
  have hpm : x ∈ (eAt es i).2.2 := by rw [hqc]; exact List.mem_cons_self
  have hfx : 0 ≤ x ∧ x ≤ 9223372036854775807 := HG.out.wai i x (by rw [HQA.out]; exact hpm)
  have hd1 : Below w.heap.size w w.drew := (Below.refl _ w).drew
  have h2 : LM (w.drew.setCell ⟨go, i, none⟩ (.int .i64 x)) b m (some ⟨go, 0, none⟩) co (some ⟨g, 0, none⟩) cq (os.set i x) es (wtI qs) (total qs) := (HL.out.below hd1).setO i x
  have hlv := leave_any h2 (i := i) (by rw [hNQ.out]; exact hie) (p := x) ⟨by omega, hfx.2⟩ hpm (by rw [← HQA.out]; exact HG.out.nd i) (by rw [hqc]; exact hln)
  have hbq := HL.out.lb.qb i (by rw [hNQ.out]; exact hie) gx (by rw [hax]; rfl)
  have hcx : (w.drew.setCell ⟨go, i, none⟩ (.int .i64 x)).cell? ⟨gx, ox, none⟩ = some (.int .i64 x) := by
   have hne : gx ≠ go := fun e => hbq.2.1 (by rw [e]; rfl)
   rw [World.cell?_of_block (w := w.drew) (a := ⟨gx, ox, none⟩) (Below.heap_setCell _ _ _ _ hne)]
   exact cx
  have HE : Hid (∀ w', LeaveTo (w.drew.setCell ⟨go, i, none⟩ (.int .i64 x)) b m (some ⟨go, 0, none⟩) co (some ⟨g, 0, none⟩) cq (os.set i x) es (wtI qs) (total qs) i x w' → LT w b m (some ⟨go, 0, none⟩) co (some ⟨g, 0, none⟩) cq es (handO os qs i) (handQ qs i) w') := hd (fun w' hl => by
   have hG2 := HG.out.setO (i := i) (v := x) ⟨by omega, hfx.2⟩
   have hqq : qAt qs i = x :: r := by rw [HQA.out, hqc]
   obtain ⟨es', t1, t2, t3, t4⟩ := leave_LT hG2 HQ.out (by rw [hqq]; exact List.mem_cons_self) hl
   rw [hand_leave HG.out hqq] at t1 t2
   have e2 : handO os qs i = os.set i x := by unfold handO; rw [hqq]; rfl
   rw [e2]
   refine ⟨es', t1, t2, (Mod.of_below _ hd1).trans ((Mod.refl (mfp b m (some ⟨go, 0, none⟩) (some ⟨g, 0, none⟩) es) w.drew).setCell (p := ⟨go, i, none⟩) (.inl (.inr (.inr (.inl rfl)))) (.int .i64 x)) (fun _ h => .inl h) |>.trans t3 (fun _ h => .inl h), fun k hk => ?_⟩
   rcases t4 k hk with h | h
   ·exact .inl h
   ·exact .inr (by simpa [World.setCell] using h))
  obtain ⟨lr, hLR⟩ : ∃ lr, Hid ((x :: r).length = lr) := ⟨_, rfl⟩
  have hlr0 : ((lr : Int) == 0) = false := by rw [← hLR.out]; simp; omega
  have hlr1 : 0 < lr := by rw [← hLR.out]; simp
  rw [hLR.out] at cq1 hln
  rw [hax] at cq1
  clear HL HG HQ HQA HEL hrd hqc HMO hNO hNQ h2 hpm hbq hax
  go_enter Tryz.func201, Tryz.ntmps201
  go_upto_region 3 with fail
  go_region
  obtain ⟨w2, hw2⟩ : ∃ W, Hid ((w.setCell ⟨go, i, none⟩ (.int .i64 x)).drew = W) := ⟨_, rfl⟩
  rw [show w.drew.setCell ⟨go, i, none⟩ (.int .i64 x) = (w.setCell ⟨go, i, none⟩ (.int .i64 x)).drew from rfl, hw2.out] at hlv hcx HE
  rw [hw2.out]
  go_wp2_with (first | (go_at_call 200; refine hlv.mono ?_; rintro e3 w3 ⟨rfl, hl3⟩))
  go_end0
  exact ⟨rfl, HE.out _ hl3⟩
end Go.Proofs.YthhcecllejddeaaGreatDoor.Locks

namespace Go.Proofs.YthhcecllejddeaaGreatDoor.Locks
open Go.RowKit Go.Maps
end Go.Proofs.YthhcecllejddeaaGreatDoor.Locks

namespace Go.Proofs.YthhcecllejddeaaGreatDoor.Locks
open Go.RowKit Go.Maps
end Go.Proofs.YthhcecllejddeaaGreatDoor.Locks

namespace Go.Proofs.YthhcecllejddeaaGreatDoor.Locks
open Go.RowKit Go.Maps
def OwnI (w : World) (l : List Int) (w' : World) (a : Option Addr) (n c : Nat) : Prop := l.length = n ∧ Row w' 3 1 a n c (iC l) ∧ Below w.heap.size w w' ∧ ∀ k, blk a = some k → w.heap.size ≤ k
theorem OwnI.nil (w : World) : OwnI w [] w none 0 0 := ⟨rfl, Row.nil, below_same w, fun _ h => (by cases h)⟩
theorem OwnI.push {w w1 : World} {l : List Int} {a : Option Addr} {n c : Nat} (h : OwnI w l w1 a n c) (hn : n < 8796093022208) (v : Int) :
  ∃ a' c' w', (∀ ty, (Builtin.append_ #[24, 24] ty #[.slice a n c, .slice (some ⟨w1.heap.size, 0, none⟩) 1 1]).run Tryz.prog (w1.alloc (.cells #[.int .i64 v] 3)) = .ok (.slice a' (n + 1) c') w') ∧ OwnI w (l ++ [v]) w' a' (n + 1) c' := by
 obtain ⟨h1, h2, h3, h4⟩ := h
 obtain ⟨a', c', w', m1, m2, m3, m4⟩ := push_any (T := 24) Tryz.underlying24 infoN rfl h2 (by unfold maxLen; omega) (by omega) [.int .i64 v] rfl (by simp [Value.oneCell'])
 refine ⟨a', c', w', m1, by simp [h1], by rw [iC_app]; exact m2, h3.trans (m3.below h3.size (fun k _ hk => h4 k hk)), fun k hk => ?_⟩
 rcases m4 k hk with h5 | h5
 ·exact h4 k h5
 ·exact Nat.le_trans h3.size h5
set_option maxRecDepth 100000 in
set_option maxHeartbeats 2000000 in
theorem holds_any {w : World} {X : List Value} {b : Nat} {ao : Option Addr} {co : Nat} {aq : Option Addr} {cq : Nat} {os : List Int} {es : List Qe} (h : LB w 203 X b ao co aq cq os es) (h8 : os.length ≤ 8) (hown : ∀ i, -1 ≤ oAt os i) (p : Int) :
  Calls Tryz.prog 195 #[.pointer (some ⟨b, 0, none⟩), .int .i64 p] w fun e w' => ∃ a n c, e = .returned (.slice a n c) ∧ OwnI w (hold os p) w' a n c := by
 have c0 := h.c0
 have HC : Hid (∀ i, i < os.length → ∀ wr, Below w.heap.size w wr → ∃ g, ao = some ⟨g, 0, none⟩ ∧ wr.cell? ⟨g, i, none⟩ = some (.int .i64 (oAt os i))) := hd (fun i hi wr hb => (h.below hb).owner i hi)
 obtain ⟨n, hN⟩ : ∃ n, Hid (os.length = n) := ⟨_, rfl⟩
 rw [hN.out] at c0 HC h8
 have HO := hd hown
 have HEND : Hid (hold os p = holdTo os p n) := hd (by unfold hold; rw [hN.out])
 rw [HEND.out]
 clear h hown HEND
 go_enter Tryz.func195, Tryz.ntmps195
 go_wp2_with fail
 go_loopg [5, 6, 7, 13, 14, 15, 16, 17, 18, 19, 20, 21, 22, 23, 24, 25, 26, 27, 28, 29] n (fun k v5 v6 v7 v13 v14 v15 v16 v17 v18 v19 v20 v21 v22 v23 v24 v25 v26 v27 v28 v29 wr => ∃ (i nn c : Nat) (a : Option Addr), i + k = n ∧ v13 = .int .i64 (i : Int) ∧ v5 = .slice a nn c ∧ nn ≤ i ∧ Hid (OwnI w (holdTo os p i) wr a nn c))
 case atStart => exact ⟨0, 0, 0, none, by omega, by go_num, rfl, Nat.le_refl _, hd (OwnI.nil w)⟩
 case round =>
  obtain ⟨i, nn, c, a, hik, rfl, rfl, hnn, HW⟩ := hrel
  by_cases h0 : gk = 0
  ·subst h0
   have hi : i = n := by omega
   subst hi
   clear hik HC HO hN
   go_wp2_with fail
   go_ret
   exact ⟨a, nn, c, rfl, HW.out⟩
  ·have hlt : i < n := by omega
   obtain ⟨g, rfl, ci⟩ := HC.out i hlt wr HW.out.2.2.1
   have HS := hd (holdTo_succ os p i)
   have hge := HO.out i
   generalize oAt os i = v at *
   by_cases h1 : v = -1
   ·subst h1
    have HW2 : Hid (OwnI w (holdTo os p (i + 1)) wr a nn c) := hd (by rw [HS.out, if_neg (by omega), List.append_nil]; exact HW.out)
    clear HS HW hge
    go_wp2_with fail
    go_roundg (gk - 1)
    case rel => exact ⟨i + 1, nn, c, a, by omega, by go_num, rfl, by omega, HW2⟩
    case measure => omega
   ·have h1' : (v != -1) = true := by simpa using h1
    by_cases h2 : v = p
    ·obtain ⟨a', c', w', hap, ho⟩ := HW.out.push (by omega) (i : Int)
     have HW2 : Hid (OwnI w (holdTo os p (i + 1)) w' a' (nn + 1) c') := hd (by rw [HS.out, if_pos ⟨by omega, h2⟩]; exact ho)
     subst h2
     replace hap := hd hap
     clear HS HW hge ho h1
     go_wp2_with (first | (at_builtin; refine wpList_append_run rfl _ _ _ rfl _ _ _ _ rfl rfl hap.out ?_; clear hap))
     go_roundg (gk - 1)
     case rel => exact ⟨i + 1, nn + 1, c', a', by omega, by go_num, rfl, by omega, HW2⟩
     case measure => omega
    ·have h2' : (v == p) = false := by simpa using h2
     have HW2 : Hid (OwnI w (holdTo os p (i + 1)) wr a nn c) := hd (by rw [HS.out, if_neg (fun e => h2 e.2), List.append_nil]; exact HW.out)
     clear HS HW hge h1 h2
     go_wp2_with fail
     go_roundg (gk - 1)
     case rel => exact ⟨i + 1, nn, c, a, by omega, by go_num, rfl, by omega, HW2⟩
     case measure => omega
end Go.Proofs.YthhcecllejddeaaGreatDoor.Locks
