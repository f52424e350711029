/- Bytes that are being written. -/
import Derived.Test.YthhcecllejddeaaGreatDoorGCc
import Derived.Test.YthhcecllejddeaaGreatDoorGQd
import Derived.Lib.SlBytesConst
namespace Go.Proofs.YthhcecllejddeaaGreatDoor
open Go.RowKit
structure Gr (w W : World) (a : Option Addr) (n c : Nat) (bs : List Nat) : Prop where
 row : Row W 5 1 a n c (bCells bs)
 new : ∀ k, blk a = some k → w.heap.size ≤ k
 bel : Below w.heap.size w W
theorem bCells_one (l : List Nat) : ∀ u ∈ bCells l, u.oneCell' = true := by
 intro u hu
 obtain ⟨x, _, rfl⟩ := List.mem_map.mp hu
 rfl
theorem Gr.len {w W : World} {a : Option Addr} {n c : Nat} {bs : List Nat} (h : Gr w W a n c bs) : bs.length = n := by
 have := h.row.len
 rw [bCells_len] at this
 omega
theorem Gr.below {w W W' : World} {a : Option Addr} {n c : Nat} {bs : List Nat} (h : Gr w W a n c bs) (hb : Below W.heap.size W W') : Gr w W' a n c bs := ⟨h.row.below hb, h.new, h.bel.trans (hb.mono h.bel.size)⟩
structure GrTo (W : World) (a : Option Addr) (W' : World) (a' : Option Addr) : Prop where
 mod : Mod (fun k => blk a = some k) W W'
 new : ∀ k, blk a' = some k → blk a = some k ∨ W.heap.size ≤ k
theorem GrTo.refl (W : World) (a : Option Addr) : GrTo W a W a := ⟨Mod.refl _ _, fun _ h => .inl h⟩
theorem GrTo.trans {W W' W2 : World} {a a' a2 : Option Addr} (h : GrTo W a W' a') (k : GrTo W' a' W2 a2) : GrTo W a W2 a2 :=
 ⟨h.mod.trans k.mod h.new, fun i hi => by
  rcases k.new i hi with h1 | h1
  ·exact h.new i h1
  ·exact .inr (Nat.le_trans h.mod.size h1)⟩
theorem GrTo.ahead {W W' W2 : World} {a a' : Option Addr} (hb : Below W.heap.size W W') (h : GrTo W' a W2 a') : GrTo W a W2 a' :=
 ⟨(Mod.of_below (fun k => blk a = some k) hb).trans h.mod (fun k hk => .inl hk), fun k hk => by
  rcases h.new k hk with h1 | h1
  ·exact .inl h1
  ·exact .inr (Nat.le_trans hb.size h1)⟩
theorem Gr.push {w W : World} {a : Option Addr} {n c : Nat} {bs : List Nat} (h : Gr w W a n c bs) (hn : n ≤ 1000000000) (y : Nat) :
  ∃ a' c' W', (∀ ty, (Builtin.append_ #[34, 34] ty #[.slice a n c, .slice (some ⟨W.heap.size, 0, none⟩) 1 1]).run Tryz.prog (W.alloc (.cells #[.int .u8 (y : Int)] 5)) = .ok (.slice a' (n + 1) c') W') ∧ Gr w W' a' (n + 1) c' (bs ++ [y]) ∧ GrTo W a W' a' := by
 obtain ⟨a', c', W', k1, k2, k3, k4⟩ := push_any Tryz.underlying34 info_u8 rfl (by omega) h.row (by omega) [.int .u8 (y : Int)] rfl (bCells_one [y])
 refine ⟨a', c', W', k1, ⟨?_, fun k hk => ?_, h.bel.trans (k3.below (B := w.heap.size) h.bel.size (fun k _ hk => h.new k hk))⟩, ⟨k3, k4⟩⟩
 ·rw [← bCells_app]
  exact k2
 ·rcases k4 k hk with h1 | h1
  ·exact h.new k h1
  ·have := h.bel.size
   omega
theorem Gr.app {w W : World} {a : Option Addr} {n c : Nat} {bs : List Nat} (h : Gr w W a n c bs) (hn : n ≤ 1000000000) {a2 : Option Addr} {c2 m : Nat} {ms : List Nat} (hm : Rd W a2 (bCells ms)) (hl : ms.length = m) (hml : m ≤ 1000000000) :
  ∃ a' c' W', (∀ ty, (Builtin.append_ #[34, 34] ty #[.slice a n c, .slice a2 m c2]).run Tryz.prog W = .ok (.slice a' (n + m) c') W') ∧ Gr w W' a' (n + m) c' (bs ++ ms) ∧ GrTo W a W' a' := by
 obtain ⟨i, k1, k2, k3, k4⟩ := info_parts info_u8
 have hs : Src Tryz.prog 1 34 (.slice a2 m c2) m (bCells ms) W := Rd.src hm Tryz.underlying34 (by rw [bCells_len]; omega) (by omega) (bCells_one ms)
 obtain ⟨a', c', W', m1, m2, m3, m4, _⟩ := run_append_row (P := Tryz.prog) _ 34 5 i _ 1 1 Tryz.underlying34 k1 k2 k3 k4 rfl h.row _ m _ hs (by unfold maxLen; omega) (by omega)
 refine ⟨a', c', W', m1, ⟨?_, fun k hk => ?_, h.bel.trans (m3.below (B := w.heap.size) h.bel.size (fun k _ hk => h.new k hk))⟩, ⟨m3, m4⟩⟩
 ·rw [← bCells_app]
  exact m2
 ·rcases m4 k hk with h1 | h1
  ·exact h.new k h1
  ·have := h.bel.size
   omega
theorem numB_snoc (k v : Nat) : numB (k + 1) v = numB k v ++ [v / 2 ^ (8 * k) % 256] := by
 unfold numB
 rw [List.range_succ]
 simp
set_option maxRecDepth 100000 in
set_option maxHeartbeats 1000000 in
theorem dnumber_any {w W : World} {a : Option Addr} {n c : Nat} {bs : List Nat} (h : Gr w W a n c bs) (hn : n ≤ 900000000) (v k : Nat) (hk : k ≤ 8) :
  Calls Tryz.prog 30 #[.slice a n c, .int .u64 (v : Int), .int .i64 (k : Int)] W fun e W' => ∃ a' c', e = .returned (.slice a' (n + k) c') ∧ Gr w W' a' (n + k) c' (bs ++ numB k v) ∧ GrTo W a W' a' := by
 have H := hd h
 clear h
 go_enter Tryz.func30, Tryz.ntmps30
 go_wp2_with fail
 go_loopg [0, 7, 8, 9, 10, 11, 12, 13, 14, 15, 16, 17, 18, 19, 20] k (fun g v0 v7 v8 v9 v10 v11 v12 v13 v14 v15 v16 v17 v18 v19 v20 wr => ∃ (j : Nat) (a' : Option Addr) (c' : Nat), j + g = k ∧ v7 = .int .i64 (j : Int) ∧ v0 = .slice a' (n + j) c' ∧ Hid (Gr w wr a' (n + j) c' (bs ++ numB j v) ∧ GrTo W a wr a'))
 case atStart => exact ⟨0, a, c, by omega, by go_num, rfl, hd ⟨by simpa [numB] using H.out, GrTo.refl W a⟩⟩
 case round =>
  obtain ⟨j, a', c', hj, rfl, rfl, HG⟩ := hrel
  by_cases h0 : gk = 0
  ·subst h0
   obtain rfl : j = k := by omega
   go_wp2_with fail
   go_ret
   exact ⟨a', c', rfl, HG.out⟩
  ·have hlt : (j : Int) < (k : Int) := by omega
   obtain ⟨a2, c2, w2, hap, hg2, ht2⟩ := HG.out.1.push (by omega) (v / 2 ^ (8 * j) % 256)
   rw [List.append_assoc, ← numB_snoc] at hg2
   have HY : Hid ((v / 2 ^ (8 * j) % 256 : Nat) = v / 2 ^ (8 * j) % 256) := hd rfl
   replace hg2 := hd (And.intro hg2 (HG.out.2.trans ht2))
   clear ht2 HG
   have ey : (v : Int) / 2 ^ (8 * j) % 256 = ((v / 2 ^ (8 * j) % 256 : Nat) : Int) := by simp
   generalize v / 2 ^ (8 * j) % 256 = y at *
   replace hap := hd hap
   clear HY
   go_wp2_with (at_builtin; refine wpList_append_run rfl _ _ _ rfl _ _ _ _ rfl rfl hap.out ?_; clear hap)
   go_roundg (gk - 1)
   case rel => exact ⟨j + 1, a2, c2, by omega, by go_num, rfl, hg2⟩
   case measure => omega
end Go.Proofs.YthhcecllejddeaaGreatDoor

namespace Go.Proofs.YthhcecllejddeaaGreatDoor
open Go.RowKit
theorem numB_one (u : Nat) : numB 1 u = [u % 256] := by simp [numB]
theorem take_flat {α : Type} [Inhabited α] (f : α → List Nat) (l : List α) (i : Nat) (h : i < l.length) : (l.take (i + 1)).flatMap f = (l.take i).flatMap f ++ f (l.getD i default) := by
 rw [List.take_add_one, List.flatMap_append, List.getD_eq_getElem?_getD, List.getElem?_eq_getElem h]
 simp
def nmB (c : Cfg) : Nat → List Nat
 | 0 => []
 | 1 => numB 2 (u64 c.fuel)
 | 2 => numB 2 (u64 c.fuel) ++ numB 1 (u64 c.lane)
 | 3 => numB 2 (u64 c.fuel) ++ numB 1 (u64 c.lane) ++ numB 1 (u64 c.locks)
 | _ => numB 2 (u64 c.fuel) ++ numB 1 (u64 c.lane) ++ numB 1 (u64 c.locks) ++ numB 2 (u64 c.log)
def eL (c : Cfg) (i : Nat) : List Nat := (hdB ++ [c.labels.length]) ++ (c.labels.take i).flatMap (numB 8)
def eT (c : Cfg) (i : Nat) : List Nat := (eL c c.labels.length ++ [c.table.length]) ++ (c.table.take i).flatMap (fun x => numB 1 (u64 x))
def eN (c : Cfg) (i : Nat) : List Nat := eT c c.table.length ++ nmB c i
def eP (c : Cfg) (i : Nat) : List Nat := (eN c 4 ++ [c.procs.length]) ++ (c.procs.take i).flatMap prB
theorem eP_all (c : Cfg) (h : (mayC c).1 = 0) : eP c c.procs.length = encC c := by
 obtain ⟨h0, h1, -, -, -, -, h6, -⟩ := (mayC_iff c).1 h
 have l1 := lab_len h0
 have l2 := tab_len h1
 have l3 := cnt_len h6
 unfold eP eN eT eL nmB encC
 rw [List.take_length, List.take_length, List.take_length, numB_one c.labels.length, numB_one c.table.length, numB_one c.procs.length, Nat.mod_eq_of_lt (show c.labels.length < 256 by omega), Nat.mod_eq_of_lt (show c.table.length < 256 by omega), Nat.mod_eq_of_lt (show c.procs.length < 256 by omega)]
 simp only [List.append_assoc]
theorem pre_len {α : Type} [Inhabited α] (f : α → List Nat) (l : List α) (i : Nat) : ((l.take i).flatMap f).length ≤ (l.flatMap f).length := by
 conv => rhs; rw [← List.take_append_drop i l]
 rw [List.flatMap_append, List.length_append]
 omega
theorem eP_len (c : Cfg) (h : (mayC c).1 = 0) (i : Nat) : (eP c i).length ≤ 98542 := by
 have h1 := enc_len c h
 rw [← eP_all c h] at h1
 have h2 := pre_len prB c.procs i
 unfold eP at h1 ⊢
 rw [List.take_length] at h1
 rw [List.length_append] at h1 ⊢
 omega
theorem eN_len (c : Cfg) (h : (mayC c).1 = 0) (i : Nat) : (eN c i).length ≤ 98542 := by
 have h1 := eP_len c h 0
 unfold eP at h1
 rw [List.length_append, List.length_append] at h1
 have h3 : (nmB c i).length ≤ (nmB c 4).length := by
  match i with
  | 0 => simp [nmB]
  | 1 => simp [nmB, numB_len]
  | 2 => simp [nmB, numB_len]
  | 3 => simp [nmB, numB_len]
  | n + 4 => simp [nmB]
 unfold eN at h1 ⊢
 rw [List.length_append] at h1 ⊢
 omega
theorem eT_len (c : Cfg) (h : (mayC c).1 = 0) (i : Nat) : (eT c i).length ≤ 98542 := by
 have h1 := eN_len c h 0
 have h2 := pre_len (fun x => numB 1 (u64 x)) c.table i
 unfold eN at h1
 rw [List.length_append] at h1
 unfold eT at h1 ⊢
 rw [List.take_length] at h1
 rw [List.length_append] at h1 ⊢
 omega
theorem eL_len (c : Cfg) (h : (mayC c).1 = 0) (i : Nat) : (eL c i).length ≤ 98542 := by
 have h1 := eT_len c h 0
 have h2 := pre_len (numB 8) c.labels i
 unfold eT at h1
 rw [List.length_append, List.length_append] at h1
 unfold eL at h1 ⊢
 rw [List.take_length] at h1
 rw [List.length_append] at h1 ⊢
 omega
def EncOut (w : World) (c : Cfg) (e : Ending) (w' : World) : Prop :=
 ∃ a' c', e = .returned (.tuple #[.slice a' (encC c).length c', .int .i64 0]) ∧ Row w' 5 1 a' (encC c).length c' (bCells (encC c)) ∧ (∀ k, blk a' = some k → w.heap.size ≤ k) ∧ Below w.heap.size w w'
theorem may_eight {l : List Ins} {K : Int} (hK : K ≤ 8) (h : (mayL l K).1 = 0) : (mayL l 8).1 = 0 := by
 unfold mayL at h ⊢
 split at h
 ·simp at h
 ·rw [if_neg (by omega)]
  split at h
  ·simp at h
  ·next h2 =>
   rw [if_neg h2]
   rw [firstE_none _ _ _ _ (fun j hj => wrong_more (firstE_zero _ _ _ _ h j hj) (Int.le_refl _) hK)]
end Go.Proofs.YthhcecllejddeaaGreatDoor
