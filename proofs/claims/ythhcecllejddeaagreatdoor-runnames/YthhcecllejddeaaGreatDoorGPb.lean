/- Lists of lanes as they are told; lanes made one by one. -/
import Derived.Test.YthhcecllejddeaaGreatDoorGPa
namespace Go.Proofs.YthhcecllejddeaaGreatDoor.Lane
open Go.RowKit
structure TLn where
 vs : List Int
 ws : List (Int × Int)
 tk : Int
 dr : Int
 a1 : Option Addr
 c1 : Nat
 a2 : Option Addr
 c2 : Nat
def T0 : TLn := ⟨[], [], 0, 0, none, 0, none, 0⟩
def TLn.ls (t : TLn) (room : Nat) : LS := ⟨room, t.vs, t.ws, t.tk, t.dr⟩
def tlP (t : TLn) : List Value := [.slice t.a1 t.vs.length t.c1, .slice t.a2 t.ws.length t.c2, .int .i64 t.tk, .int .i64 t.dr]
def tlC (l : List TLn) : List Value := l.flatMap tlP
def tAt (l : List TLn) (i : Nat) : TLn := l.getD i T0
theorem tAt_mem {l : List TLn} {i : Nat} (h : i < l.length) : tAt l i ∈ l := by
 unfold tAt
 rw [List.getD_eq_getElem?_getD, List.getElem?_eq_getElem h]
 exact List.getElem_mem h
theorem tAt_of_mem {l : List TLn} {t : TLn} (h : t ∈ l) : ∃ i, i < l.length ∧ tAt l i = t := by
 obtain ⟨i, hi, rfl⟩ := List.getElem_of_mem h
 exact ⟨i, hi, by unfold tAt; rw [List.getD_eq_getElem?_getD, List.getElem?_eq_getElem hi]; rfl⟩
theorem tlC_at : ∀ (l : List TLn) (i : Nat), i < l.length → (tlC l)[i * 4]? = some (.slice (tAt l i).a1 (tAt l i).vs.length (tAt l i).c1) ∧ (tlC l)[i * 4 + 1]? = some (.slice (tAt l i).a2 (tAt l i).ws.length (tAt l i).c2) ∧ (tlC l)[i * 4 + 2]? = some (.int .i64 (tAt l i).tk) ∧ (tlC l)[i * 4 + 3]? = some (.int .i64 (tAt l i).dr)
 | [], i, h => absurd h (Nat.not_lt_zero i)
 | t :: ts, 0, _ => ⟨rfl, rfl, rfl, rfl⟩
 | t :: ts, i + 1, h => by
  have ih := tlC_at ts i (by simpa using h)
  have hl : (tlP t).length = 4 := rfl
  simp only [tlC, tAt, List.flatMap_cons, List.getD_cons_succ] at *
  rw [List.getElem?_append_right (by omega), List.getElem?_append_right (by omega), List.getElem?_append_right (by omega), List.getElem?_append_right (by omega), hl, show (i + 1) * 4 - 4 = i * 4 by omega, show (i + 1) * 4 + 1 - 4 = i * 4 + 1 by omega, show (i + 1) * 4 + 2 - 4 = i * 4 + 2 by omega, show (i + 1) * 4 + 3 - 4 = i * 4 + 3 by omega]
  exact ih
theorem tlC_len (l : List TLn) : (tlC l).length = l.length * 4 := by
 induction l with
 | nil => rfl
 | cons x r ih => simp only [tlC, List.flatMap_cons, List.length_append, List.length_cons] at *; rw [ih, show (tlP x).length = 4 from rfl]; omega
theorem tlC_app (l m : List TLn) : tlC (l ++ m) = tlC l ++ tlC m := by simp [tlC]
structure ALs (w : World) (a : Option Addr) (l : List TLn) : Prop where
 rd : Rd w a (tlC l)
 el : ∀ t ∈ l, AL w t.vs t.ws t.a1 t.a2
theorem ALs.below {w w' : World} {a : Option Addr} {l : List TLn} (h : ALs w a l) (hb : Below w.heap.size w w') : ALs w' a l := ⟨h.rd.below hb, fun t ht => (h.el t ht).below hb⟩
theorem ALs.at {w : World} {a : Option Addr} {l : List TLn} (h : ALs w a l) (i : Nat) (hi : i < l.length) : ∃ b o, a = some ⟨b, o, none⟩ ∧ w.cell? ⟨b, o + i * 4, none⟩ = some (.slice (tAt l i).a1 (tAt l i).vs.length (tAt l i).c1) ∧ w.cell? ⟨b, o + i * 4 + 1, none⟩ = some (.slice (tAt l i).a2 (tAt l i).ws.length (tAt l i).c2) ∧ w.cell? ⟨b, o + i * 4 + 2, none⟩ = some (.int .i64 (tAt l i).tk) ∧ w.cell? ⟨b, o + i * 4 + 3, none⟩ = some (.int .i64 (tAt l i).dr) := by
 obtain ⟨k0, k1, k2, k3⟩ := tlC_at l i hi
 obtain ⟨b, o, rfl, c0⟩ := h.rd _ _ k0
 obtain ⟨b1, o1, e1, c1⟩ := h.rd _ _ k1
 obtain ⟨b2, o2, e2, c2⟩ := h.rd _ _ k2
 obtain ⟨b3, o3, e3, c3⟩ := h.rd _ _ k3
 cases e1; cases e2; cases e3
 exact ⟨b, o, rfl, c0, c1, c2, c3⟩
theorem push_any {T e : TypeId} {z : Value} {size bytes : Nat} (hu : Tryz.prog.underlying T = some (.slice e)) (hinfo : (Tryz.prog.info? e).map (fun i => (i.zero, i.size, i.bytes)) = some (some z, size, bytes)) (hzs : z.cells.size = size) (hb64 : bytes ≤ 64)
  {w : World} {a : Option Addr} {n c : Nat} {xs : List Value} (hR : Row w e size a n c xs) (hn : n ≤ 1000000000000) (us : List Value) (hus : us.length = size) (h1 : ∀ u ∈ us, u.oneCell' = true) :
  ∃ a' c' w', (∀ ty, (Builtin.append_ #[T, T] ty #[.slice a n c, .slice (some ⟨w.heap.size, 0, none⟩) 1 1]).run Tryz.prog (w.alloc (.cells us.toArray e)) = .ok (.slice a' (n + 1) c') w') ∧
   Row w' e size a' (n + 1) c' (xs ++ us) ∧ Mod (fun k => blk a = some k) w w' ∧ (∀ k, blk a' = some k → blk a = some k ∨ w.heap.size ≤ k) := by
 obtain ⟨i, k1, k2, k3, k4⟩ := info_parts hinfo
 have hb := below_al w (.cells us.toArray e)
 have hh := heap_alloc_new w (.cells us.toArray e)
 have hs : Src Tryz.prog size T (.slice (some ⟨w.heap.size, 0, none⟩) 1 1) 1 us (w.alloc (.cells us.toArray e)) := by
  refine Src.ofSlice _ hu _ _ _ _ (by omega) (fun j u hj => ?_) h1
  rw [addr_add, cell_of_row _ _ _ _ _ _ hh, Nat.zero_add]
  simpa using hj
 obtain ⟨a', c', w', m1, m2, m3, m4, _⟩ := run_append_row (P := Tryz.prog) _ T e i _ size bytes hu k1 k2 k3 k4 hzs (hR.below hb) _ 1 _ hs (by unfold maxLen; omega) (by
  have : (n + 1) * bytes ≤ (n + 1) * 64 := Nat.mul_le_mul_left _ hb64
  omega)
 refine ⟨a', c', w', m1, m2, (Mod.of_below _ hb).trans m3 (fun _ h => .inl h), fun k hk => ?_⟩
 rcases m4 k hk with h | h
 ·exact .inl h
 ·exact .inr (by have := hb.size; omega)
theorem infoP : (Tryz.prog.info? 215).map (fun i => (i.zero, i.size, i.bytes)) = some (some (.pointer none), 1, 8) := by kernel_rfl
theorem infoA : (Tryz.prog.info? 219).map (fun i => (i.zero, i.size, i.bytes)) = some (some (.agg #[.slice none 0 0, .slice none 0 0, .int .i64 0, .int .i64 0]), 4, 64) := by kernel_rfl
theorem lnOf_app_lt {ss : List LS} {s : LS} {i : Nat} (h : i < ss.length) : lnOf (ss ++ [s]) i = lnOf ss i := by
 unfold lnOf
 rw [List.getD_eq_getElem?_getD, List.getD_eq_getElem?_getD, List.getElem?_append_left h]
theorem lnOf_app_eq {ss : List LS} {s : LS} : lnOf (ss ++ [s]) ss.length = s := by
 unfold lnOf
 rw [List.getD_eq_getElem?_getD, List.getElem?_append_right (Nat.le_refl _)]
 simp
theorem getD_app_lt {l : List Nat} {x i : Nat} (h : i < l.length) : (l ++ [x]).getD i 0 = l.getD i 0 := by
 rw [List.getD_eq_getElem?_getD, List.getD_eq_getElem?_getD, List.getElem?_append_left h]
theorem getD_app_eq {l : List Nat} {x : Nat} : (l ++ [x]).getD l.length 0 = x := by
 rw [List.getD_eq_getElem?_getD, List.getElem?_append_right (Nat.le_refl _)]
 simp
def Mk (w : World) (TP TL TE : TypeId) (b : Nat) (ss : List LS) (cur : Nat) (a : Option Addr) (cap : Nat) (wr : World) : Prop :=
 ∃ bs Fs, PsAt wr TP TL TE b ss cur a cap bs Fs ∧ (∀ k, pfp b a ss.length Fs k → w.heap.size ≤ k) ∧ Below w.heap.size w wr
section
variable {w wr w1 w' : World} {TP TL TE : TypeId} {b : Nat} {ss : List LS} {cur : Nat} {a a' : Option Addr} {cap cap' : Nat}
theorem Mk.bel (h : Mk w TP TL TE b ss cur a cap wr) (hb : Below wr.heap.size wr w1) : Mk w TP TL TE b ss cur a cap w1 := by
 obtain ⟨bs, Fs, h1, h2, h3⟩ := h
 exact ⟨bs, Fs, h1.below hb, h2, h3.trans (hb.mono h3.size)⟩
theorem Mk.cells (h : Mk w TP TL TE b ss cur a cap wr) : wr.cell? ⟨b, 0, none⟩ = some (.slice a ss.length cap) ∧ wr.cell? ⟨b, 1, none⟩ = some (.int .i64 (cur : Int)) := by
 obtain ⟨bs, Fs, h1, h2, h3⟩ := h
 exact h1.cells
theorem Mk.row (h : Mk w TP TL TE b ss cur a cap wr) : ∃ xs, Row wr TE 1 a ss.length cap xs := by
 obtain ⟨bs, Fs, h1, h2, h3⟩ := h
 exact ⟨_, h1.row⟩
theorem Mk.push (h : Mk w TP TL TE b ss cur a cap wr) (hb : Below wr.heap.size wr w1) {b1 : Nat} {F1 : Nat → Prop} {s : LS} (hL : Ln w1 TL b1 F1 s) (hF1 : ∀ k, F1 k → wr.heap.size ≤ k)
  (hap : ∀ xs, Row w1 TE 1 a ss.length cap xs → Row w' TE 1 a' (ss.length + 1) cap' (xs ++ pC [b1])) (hm : Mod (fun k => blk a = some k) w1 w') (hn : ∀ k, blk a' = some k → blk a = some k ∨ w1.heap.size ≤ k) :
  Mk w TP TL TE b (ss ++ [s]) cur a' cap' (w'.setCell ⟨b, 0, none⟩ (.slice a' (ss.length + 1) cap')) := by
 obtain ⟨bs, Fs, h0, h2, h3⟩ := h
 have h1 := h0.below hb
 have hbl := h0.blt
 have hlen := h0.blen
 have hR := hap _ h1.row
 have hlt := h0.lt
 have hs1 := hb.size
 have hk' : ∀ k, k ≠ b → (w'.setCell ⟨b, 0, none⟩ (.slice a' (ss.length + 1) cap')).heap[k]? = w'.heap[k]? := fun k hk => Below.heap_setCell _ _ _ _ hk
 have hmb : Mod (fun k => k = b) w' (w'.setCell ⟨b, 0, none⟩ (.slice a' (ss.length + 1) cap')) := ⟨rfl, rfl, rfl, by simp [World.setCell], fun k _ hk => hk' k hk⟩
 have n1 : ∀ k, blk a' = some k → k ≠ b := fun k hk => by
  rcases hn k hk with h4 | h4
  ·exact (h1.fa k h4).1
  ·omega
 have nF : ∀ k, blk a' = some k → ∀ i, i < ss.length → ¬ Fs i k := fun k hk i hi hf => by
  rcases hn k hk with h4 | h4
  ·exact (h1.fa k h4).2 i hi hf
  ·have := (h1.lns i hi).lt k hf; omega
 have nF1 : ∀ k, blk a' = some k → ¬ F1 k := fun k hk hf => by
  rcases hn k hk with h4 | h4
  ·have := h0.row.lt k h4
   have := hF1 k hf
   omega
  ·have := hL.lt k hf; omega
 refine ⟨bs ++ [b1], fun i k => if i = ss.length then F1 k else Fs i k, ⟨?_, ?_, ?_, ?_, ?_, ?_⟩, ?_, ?_⟩
 ·rw [List.length_append, heap_setCell_self ((hm.block b h1.blt (fun e => (h1.fa b e).1 rfl)).trans h1.obj)]
  rfl
 ·rw [List.length_append, pC_app]
  exact hR.kept (fun k hk => hk' k (n1 k hk))
 ·intro i hi
  rw [List.length_append] at hi
  simp only [List.length_singleton] at hi
  by_cases e : i = ss.length
  ·subst e
   simp only [if_true]
   rw [lnOf_app_eq, show (bs ++ [b1]).getD ss.length 0 = b1 by rw [← hlen]; exact getD_app_eq]
   exact (hL.mod hm (fun k hk e => by have := h0.row.lt k e; have := hF1 k hk; omega)).mod hmb (fun k hk e => by have := hF1 k hk; omega)
  ·have hi' : i < ss.length := by omega
   simp only [if_neg e]
   rw [lnOf_app_lt hi', getD_app_lt (by omega)]
   exact ((h1.lns i hi').mod hm (fun k hk e => (h1.fa k e).2 i hi' hk)).mod hmb (fun k hk e => h1.fb i hi' (e ▸ hk))
 ·intro i j hi hj hij k hk hk2
  rw [List.length_append] at hi hj
  simp only [List.length_singleton] at hi hj
  by_cases e : i = ss.length
  ·rw [if_pos e] at hk
   rw [if_neg (by omega)] at hk2
   have := (h0.lns j (by omega)).lt k hk2
   have := hF1 k hk
   omega
  ·rw [if_neg e] at hk
   by_cases e2 : j = ss.length
   ·rw [if_pos e2] at hk2
    have := (h0.lns i (by omega)).lt k hk
    have := hF1 k hk2
    omega
   ·rw [if_neg e2] at hk2
    exact h0.ap i j (by omega) (by omega) hij k hk hk2
 ·intro k hk
  refine ⟨n1 k hk, fun i hi hf => ?_⟩
  rw [List.length_append] at hi
  simp only [List.length_singleton] at hi
  by_cases e : i = ss.length
  ·rw [if_pos e] at hf
   exact nF1 k hk hf
  ·rw [if_neg e] at hf
   exact nF k hk i (by omega) hf
 ·intro i hi hf
  rw [List.length_append] at hi
  simp only [List.length_singleton] at hi
  by_cases e : i = ss.length
  ·rw [if_pos e] at hf
   have := hF1 b hf
   omega
  ·rw [if_neg e] at hf
   exact h0.fb i (by omega) hf
 ·intro k hk
  have hw := h3.size
  rcases hk with hk | hk | ⟨i, hi, hk⟩
  ·exact h2 k (.inl hk)
  ·rcases hn k hk with h4 | h4
   ·exact h2 k (.inr (.inl h4))
   ·omega
  ·rw [List.length_append] at hi
   simp only [List.length_singleton] at hi
   by_cases e : i = ss.length
   ·rw [if_pos e] at hk
    have := hF1 k hk
    omega
   ·rw [if_neg e] at hk
    exact h2 k (.inr (.inr ⟨i, by omega, hk⟩))
 ·have hb0 : w.heap.size ≤ b := h2 b (.inl rfl)
  have hw := h3.size
  refine ((h3.trans (hb.mono hw)).trans (hm.below (by omega) (fun k _ hk => h2 k (.inr (.inl hk))))).setCell (p := ⟨b, 0, none⟩) hb0 _
theorem Mk.new (w : World) (TP TL TE : TypeId) (cur : Nat) : Mk w TP TL TE w.heap.size [] cur none 0 (w.alloc (.cells #[.slice none 0 0, .int .i64 (cur : Int)] TP)) :=
 ⟨[], fun _ _ => False, ⟨heap_alloc_new _ _, Row.nil, fun i hi => by simp at hi, fun i j hi => by simp at hi, fun k hk => (by cases hk), fun i hi => by simp at hi⟩, fun k hk => by
  rcases hk with rfl | hk | ⟨i, hi, _⟩
  ·exact Nat.le_refl _
  ·cases hk
  ·simp at hi, below_al w _⟩
end
def MadeP (w : World) (TP TL TE : TypeId) (ss : List LS) (cur : Nat) (E : Ending) (w' : World) : Prop :=
 ∃ b F, E = .returned (.tuple #[.pointer (some ⟨b, 0, none⟩), .int .i64 0]) ∧ Ps w' TP TL TE b F ss cur ∧ (∀ k, F k → w.heap.size ≤ k) ∧ Below w.heap.size w w'
theorem Mk.made {w wr : World} {TP TL TE : TypeId} {b : Nat} {ss : List LS} {cur : Nat} {a : Option Addr} {cap : Nat} (h : Mk w TP TL TE b ss cur a cap wr) : MadeP w TP TL TE ss cur (.returned (.tuple #[.pointer (some ⟨b, 0, none⟩), .int .i64 0])) wr := by
 obtain ⟨bs, Fs, h1, h2, h3⟩ := h
 exact ⟨b, _, rfl, h1.ps, h2, h3⟩
def LayOut (w : World) (TP TL TE : TypeId) (room : Nat) (l : List TLn) (cur : Nat) (E : Ending) (w' : World) : Prop :=
 ((∀ t ∈ l, MayL room t.vs t.ws t.tk t.dr) ∧ MadeP w TP TL TE (l.map (·.ls room)) cur E w') ∨ ((∃ t ∈ l, ¬ MayL room t.vs t.ws t.tk t.dr) ∧ Refused w 4 E w')
end Go.Proofs.YthhcecllejddeaaGreatDoor.Lane

namespace Go.Proofs.YthhcecllejddeaaGreatDoor.Lane
open Go.RowKit
theorem map_take_snoc (l : List TLn) (room i : Nat) (h : i < l.length) : (l.take (i + 1)).map (·.ls room) = (l.take i).map (·.ls room) ++ [(tAt l i).ls room] := by
 rw [List.take_succ_eq_append_getElem h, List.map_append]
 unfold tAt
 rw [List.getD_eq_getElem?_getD, List.getElem?_eq_getElem h]
 rfl
def FitT (l : List TLn) : Prop := ∀ t ∈ l, t.ws.length ≤ 7000000000000 ∧ ∀ x ∈ t.ws, Fit64 x.1
set_option maxRecDepth 100000 in
set_option maxHeartbeats 2000000 in
theorem play_any {room : Nat} {a : Option Addr} {l : List TLn} {c : Nat} {cur : Nat} {w : World} (hA : ALs w a l) (hn : l.length ≤ 9) (hn1 : 1 ≤ l.length) (hr1 : 1 ≤ room) (hr2 : room ≤ 64) (hc : cur < l.length) (hf : FitT l) :
  Calls Tryz.prog 104 #[.int .i64 (room : Int), .slice a l.length c, .int .i64 (cur : Int)] w (LayOut w 214 263 215 room l cur) := by
 have hm := may_any l.length room w
 rw [show mayP (l.length : Int) (room : Int) = true by simp [mayP]; omega] at hm
 have HM := hd (Mk.new w 214 263 215 cur)
 have HA := hd hA
 have hc' : (cur : Int) < (l.length : Int) := by omega
 have hcd : decide ((l.length : Int) ≤ (cur : Int)) = false := by simp; omega
 have hc0 : decide ((cur : Int) < 0) = false := by simp
 have hcn : decide (l.length ≤ cur) = false := by simp; omega
 obtain ⟨Q, hQ⟩ : ∃ Q : Ending → World → Prop, Hid (LayOut w 214 263 215 room l cur = Q) := ⟨_, rfl⟩
 rw [hQ.out]
 obtain ⟨n, hnn⟩ : ∃ n, Hid (l.length = n) := ⟨_, rfl⟩
 rw [hnn.out] at hm hc' hcd hcn hn hn1 ⊢
 clear hA
 go_enter Tryz.func104, Tryz.ntmps104
 go_wp2_with (first | (go_at_call 130; refine hm.mono ?_; rintro e1 w1 ⟨rfl, rfl⟩))
 obtain ⟨b, hb⟩ : ∃ b, Hid (w1.heap.size = b) := ⟨_, rfl⟩
 rw [hb.out] at HM ⊢
 go_loopg [31] n (fun k v31 wr => ∃ i : Nat, v31 = .int .i64 (i : Int) ∧ i + k = n ∧ Hid ((∀ j, j < i → MayL room (tAt l j).vs (tAt l j).ws (tAt l j).tk (tAt l j).dr) ∧ ∃ a' cap', Mk w1 214 263 215 b ((l.take i).map (·.ls room)) cur a' cap' wr))
 case atStart => exact ⟨0, rfl, by omega, hd ⟨fun j hj => by omega, none, 0, by simpa using HM.out⟩⟩
 case round =>
  obtain ⟨i, rfl, hik, HH⟩ := hrel
  clear HM
  by_cases hlt : i < n
  ·have hlt' : (i : Int) < (n : Int) := by omega
   obtain ⟨hmay, a', cap', hMk⟩ := HH.out
   have HK := hd hMk
   have hil : i < l.length := by rw [hnn.out]; exact hlt
   have HAr := hd (HA.out.below (show Below w1.heap.size w1 wr by obtain ⟨_, _, _, _, h3⟩ := hMk; exact h3))
   obtain ⟨ba, oa, rfl, c0, c1, c2, c3⟩ := HAr.out.at i hil
   obtain ⟨t, ht⟩ : ∃ t, Hid (tAt l i = t) := ⟨_, rfl⟩
   have HT : Hid (t ∈ l) := hd (by rw [← ht.out]; exact tAt_mem hil)
   rw [ht.out] at c0 c1 c2 c3
   have hAL := HAr.out.el t HT.out
   have hb1 := below_al wr (.cells #[.slice t.a1 t.vs.length t.c1, .slice t.a2 t.ws.length t.c2, .int .i64 t.tk, .int .i64 t.dr] 219)
   have hfit := hf t HT.out
   have HMA := hd hmay
   clear hMk hmay
   obtain ⟨vn, hvn⟩ : ∃ vn, Hid (t.vs.length = vn) := ⟨_, rfl⟩
   obtain ⟨wn, hwn⟩ : ∃ wn, Hid (t.ws.length = wn) := ⟨_, rfl⟩
   obtain ⟨d0, d1, d2, d3⟩ := box4 wr (.slice t.a1 vn t.c1) (.slice t.a2 wn t.c2) (.int .i64 t.tk) (.int .i64 t.dr) 219
   by_cases hma : MayL room t.vs t.ws t.tk t.dr
   ·have hly := lay_ok (c1 := t.c1) (c2 := t.c2) (hAL.below hb1) hr1 hr2 (by omega) hfit.2 hma
    have HMAY := hd hma
    rw [hvn.out, hwn.out] at hly hb1
    rw [hvn.out] at c0
    rw [hwn.out] at c1
    have HB1 := hd hb1
    clear hma hfit hAL hb1
    go_upto_region 12 with (first | (go_at_call 131; refine hly.mono ?_; rintro e2 w2 ⟨bl, F1, rfl, hL, hF1, b2⟩))
    have HB2 := hd (HB1.out.trans (b2.mono HB1.out.size))
    have HL := hd hL
    have HF1 : Hid (∀ k, F1 k → wr.heap.size ≤ k) := hd (fun k hk => Nat.le_trans HB1.out.size (hF1 k hk))
    have HK2 := hd (HK.out.bel HB2.out)
    obtain ⟨q0, q1⟩ := HK2.out.cells
    obtain ⟨xs, hrow⟩ := HK2.out.row
    have hlen : ((l.take i).map (·.ls room)).length = i := by simp; omega
    rw [hlen] at q0 hrow
    obtain ⟨a2, cap2, w3, hap, R3, M3, B3⟩ := push_any (us := [.pointer (some ⟨bl, 0, none⟩)]) Tryz.underlying212 infoP rfl (by decide) hrow (by omega) rfl (fun u hu => by simp at hu; subst hu; rfl)
    have hbd : ∀ k, blk a' = some k → k ≠ b := by
     obtain ⟨bs, Fs, h1, _, _⟩ := HK2.out
     exact fun k hk => (h1.fa k hk).1
    have hbl2 : b < w2.heap.size := by
     obtain ⟨bs, Fs, h1, _, _⟩ := HK2.out
     exact h1.blt
    have z0 : w3.cell? ⟨b, 0, none⟩ = some (.slice a' i cap') := (M3.cell hbl2 (fun e => hbd b e rfl)).trans q0
    have z1 : w3.frozen? ⟨b, 0, none⟩ = false := by
     obtain ⟨bs, Fs, h1, _, _⟩ := HK2.out
     exact (M3.frozen hbl2 (fun e => hbd b e rfl)).trans (h1.free 0)
    have HE : Hid (∃ a' cap', Mk w1 214 263 215 b ((l.take (i + 1)).map (·.ls room)) cur a' cap' (w3.setCell ⟨b, 0, none⟩ (.slice a2 (i + 1) cap2))) := hd (by
     refine ⟨a2, cap2, ?_⟩
     rw [map_take_snoc l room i hil, ht.out]
     have := HK.out.push HB2.out HL.out HF1.out (a' := a2) (cap' := cap2) (w' := w3) (fun ys hys => by
      rw [hlen] at hys ⊢
      obtain ⟨a3, cap3, w4, hap2, R4, M4, B4⟩ := push_any (us := [.pointer (some ⟨bl, 0, none⟩)]) Tryz.underlying212 infoP rfl (by decide) hys (by omega) rfl (fun u hu => by simp at hu; subst hu; rfl)
      have e := (hap 0).symm.trans (hap2 0)
      cases e
      exact R4) M3 B3
     rw [hlen] at this
     exact this)
    clear R3 M3 B3 HK HK2 hly b2 hL hF1 hrow hbd hbl2 d0 d1 d2 d3 q1
    have hap := hd hap
    go_wp2_with (first | (at_builtin; refine wpList_append_run rfl _ _ _ rfl _ _ _ _ rfl rfl hap.out ?_))
    go_roundg (gk - 1)
    case measure => omega
    case rel => exact ⟨i + 1, by go_num, by omega, hd ⟨fun j hj => by
     by_cases e : j = i
     ·rw [e, ht.out]; exact HMAY.out
     ·exact HMA.out j (by omega), HE.out⟩⟩
   ·have hly := lay_form (c1 := t.c1) (c2 := t.c2) (room := (room : Int)) (hAL.below hb1) (by omega) (by omega) (by omega) hfit.2 hma
    have HMAY := hd hma
    rw [hvn.out, hwn.out] at hly hb1
    rw [hvn.out] at c0
    rw [hwn.out] at c1
    have HB1 := hd hb1
    clear hma hfit hAL hb1
    go_wp2_with (first | (go_at_call 131; refine hly.mono ?_; rintro e2 w2 ⟨rfl, b2⟩))
    rw [← hQ.out]
    refine .inr ⟨⟨t, HT.out, HMAY.out⟩, rfl, ?_⟩
    obtain ⟨_, _, _, _, h3⟩ := HK.out
    have h4 := HB1.out.trans (b2.mono HB1.out.size)
    exact h3.trans (h4.mono h3.size)
  ·have hltd : decide ((i : Int) < (n : Int)) = false := by simp; omega
   have hle : (n : Int) ≤ (i : Int) := by omega
   go_wp2_with fail
   rw [← hQ.out]
   obtain ⟨hmay, a', cap', hMk⟩ := HH.out
   refine .inl ⟨fun t ht => ?_, ?_⟩
   ·obtain ⟨j, hj, rfl⟩ := tAt_of_mem ht
    exact hmay j (by have := hnn.out; omega)
   ·rw [List.take_of_length_le (by have := hnn.out; omega)] at hMk
    exact hMk.made
end Go.Proofs.YthhcecllejddeaaGreatDoor.Lane

namespace Go.Proofs.YthhcecllejddeaaGreatDoor.Lane
open Go.RowKit
theorem tAt_rep {n i : Nat} (h : i < n) : tAt (List.replicate n T0) i = T0 := by
 unfold tAt
 rw [List.getD_eq_getElem?_getD, List.getElem?_replicate, if_pos h]
 rfl
theorem made4 (n : Nat) : (madeCells (Value.agg #[.slice none 0 0, .slice none 0 0, .int .i64 0, .int .i64 0]).cells (n * 4)).toList = tlC (List.replicate n T0) := by
 refine List.ext_getElem? (fun j => ?_)
 by_cases hj : j < n * 4
 ·have hl : (madeCells (Value.agg #[.slice none 0 0, .slice none 0 0, .int .i64 0, .int .i64 0]).cells (n * 4)).toList[j]? = some ((Value.agg #[.slice none 0 0, .slice none 0 0, .int .i64 0, .int .i64 0]).cells[j % 4]!) := by
   simp [madeCells, hj, Value.cells]
  rw [hl]
  have hi : j / 4 < n := by omega
  obtain ⟨k0, k1, k2, k3⟩ := tlC_at (List.replicate n T0) (j / 4) (by simpa using hi)
  rw [tAt_rep hi] at k0 k1 k2 k3
  have hr : j % 4 = 0 ∨ j % 4 = 1 ∨ j % 4 = 2 ∨ j % 4 = 3 := by omega
  rcases hr with hr | hr | hr | hr
  ·rw [show j = j / 4 * 4 by omega, k0, show j / 4 * 4 % 4 = 0 by omega]; rfl
  ·rw [show j = j / 4 * 4 + 1 by omega, k1, show (j / 4 * 4 + 1) % 4 = 1 by omega]; rfl
  ·rw [show j = j / 4 * 4 + 2 by omega, k2, show (j / 4 * 4 + 2) % 4 = 2 by omega]; rfl
  ·rw [show j = j / 4 * 4 + 3 by omega, k3, show (j / 4 * 4 + 3) % 4 = 3 by omega]; rfl
 ·rw [List.getElem?_eq_none (by simp [size_madeCells]; omega), List.getElem?_eq_none (by rw [tlC_len]; simp; omega)]
section
variable {b : Nat} {F : Nat → Prop} {ss : List LS} {cur : Nat} {w : World}
end
end Go.Proofs.YthhcecllejddeaaGreatDoor.Lane
