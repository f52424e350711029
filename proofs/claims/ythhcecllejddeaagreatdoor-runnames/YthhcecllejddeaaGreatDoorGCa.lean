/- Instructions: which may be, and as bytes, over whole numbers. -/
import Derived.RowKit
import Derived.Test.YthhcecllejddeaaGreatDoorProg
import Derived.WalkKit
import Derived.WalkSpells
import Derived.WalkLawsBesides
import Derived.Deep.Quiet
import Derived.Deep.QuietTactic
import Derived.BigQuiet
import Derived.Laws.BitsAllLaws
namespace Go.Proofs.YthhcecllejddeaaGreatDoor
open Go.RowKit
structure Ins where
 op : Int
 a : Int
 b : Int
 c : Int
 imm : Int
def hA (o : Int) : Bool := (decide (1 ≤ o) && decide (o ≤ 21)) || (decide (23 ≤ o) && decide (o ≤ 28)) || (decide (31 ≤ o) && decide (o ≤ 33))
def hB (o : Int) : Bool := (decide (2 ≤ o) && decide (o ≤ 21)) || (decide (24 ≤ o) && decide (o ≤ 26))
def hC (o : Int) : Bool := (decide (3 ≤ o) && decide (o ≤ 19)) || decide (o = 24)
def hI (o : Int) : Bool := decide (o = 1) || (decide (22 ≤ o) && decide (o ≤ 23)) || (decide (29 ≤ o) && decide (o ≤ 30))
def regE (r : Int) (h : Bool) : Int := if h = true then (if 0 ≤ r ∧ r < 8 then 0 else 10) else (if r = 0 then 0 else 11)
def immE (o i n k : Int) : Int :=
 if hI o = true then (if o = 22 ∨ o = 23 then (if 0 ≤ i ∧ i ≤ n then 0 else 12) else if o = 29 ∨ o = 30 then (if 0 ≤ i ∧ i < k then 0 else 13) else 0) else if i = 0 then 0 else 11
def wrong (x : Ins) (n k : Int) : Int × Int :=
 if ¬ (0 ≤ x.op ∧ x.op < 34) then (9, 0) else
 if regE x.a (hA x.op) ≠ 0 then (regE x.a (hA x.op), 1) else
 if regE x.b (hB x.op) ≠ 0 then (regE x.b (hB x.op), 2) else
 if regE x.c (hC x.op) ≠ 0 then (regE x.c (hC x.op), 3) else
 if immE x.op x.imm n k ≠ 0 then (immE x.op x.imm n k, 4) else (0, 0)
def firstE (n k : Int) : List Ins → Int → Int × Int
 | [], _ => (0, 0)
 | x :: r, i => if (wrong x n k).1 ≠ 0 then ((wrong x n k).1, i) else firstE n k r (i + 1)
def mayL (l : List Ins) (k : Int) : Int × Int :=
 if ¬ (0 ≤ k ∧ k ≤ 8) then (1, 0) else if 256 < l.length then (3, 256) else firstE l.length k l 0
instance : Inhabited Ins := ⟨⟨0, 0, 0, 0, 0⟩⟩
theorem firstE_at (n k : Int) : ∀ (l : List Ins) (s : Int) (i : Nat), i < l.length → (∀ j, j < i → (wrong (l.getD j default) n k).1 = 0) → (wrong (l.getD i default) n k).1 ≠ 0 → firstE n k l s = ((wrong (l.getD i default) n k).1, s + i)
 | [], _, i, h, _, _ => absurd h (Nat.not_lt_zero i)
 | x :: r, s, 0, _, _, h => by
  have h' : (wrong x n k).1 ≠ 0 := by simpa using h
  simp only [firstE, if_pos h', List.getD_cons_zero]
  simp
 | x :: r, s, i + 1, hi, hb, h => by
  have h0 : ¬ (wrong x n k).1 ≠ 0 := by
   have := hb 0 (by omega)
   simpa using this
  have ih := firstE_at n k r (s + 1) i (by simpa using hi) (fun j hj => by simpa using hb (j + 1) (by omega)) (by simpa using h)
  simp only [firstE, if_neg h0, ih, List.getD_cons_succ, Prod.mk.injEq, true_and]
  omega
theorem firstE_none (n k : Int) : ∀ (l : List Ins) (s : Int), (∀ j, j < l.length → (wrong (l.getD j default) n k).1 = 0) → firstE n k l s = (0, 0)
 | [], _, _ => rfl
 | x :: r, s, hb => by
  have h0 : ¬ (wrong x n k).1 ≠ 0 := by
   have := hb 0 (by simp)
   simpa using this
  simp only [firstE, if_neg h0]
  exact firstE_none n k r (s + 1) (fun j hj => by simpa using hb (j + 1) (by simpa using hj))
theorem firstE_zero (n k : Int) : ∀ (l : List Ins) (s : Int), (firstE n k l s).1 = 0 → ∀ j, j < l.length → (wrong (l.getD j default) n k).1 = 0
 | [], _, _, j, hj => absurd hj (Nat.not_lt_zero j)
 | x :: r, s, h, j, hj => by
  by_cases h0 : (wrong x n k).1 ≠ 0
  ·simp only [firstE, if_pos h0] at h
   exact absurd h h0
  ·simp only [firstE, if_neg h0] at h
   cases j with
   | zero => simpa using h0
   | succ j => simpa using firstE_zero n k r (s + 1) h j (by simpa using hj)
def b8 (z : Int) : Nat := (z % 256).toNat
def u64 (z : Int) : Nat := (z % 18446744073709551616).toNat
def byteAt (z : Int) (j : Nat) : Nat := u64 z / 2 ^ (8 * j) % 256
def insB (x : Ins) : List Nat := [b8 x.op, b8 x.a, b8 x.b, b8 x.c] ++ (List.range 8).map (byteAt x.imm)
def encB (l : List Ins) : List Nat := l.flatMap insB
theorem insB_len (x : Ins) : (insB x).length = 12 := by simp [insB]
theorem encB_len (l : List Ins) : (encB l).length = 12 * l.length := by
 induction l with
 | nil => rfl
 | cons x r ih => simp only [encB, List.flatMap_cons, List.length_append, insB_len, List.length_cons] at *; omega
def sumB (bs : List Nat) (at_ : Nat) : Nat → Nat
 | 0 => 0
 | j + 1 => sumB bs at_ j + bs.getD (at_ + j) 0 * 2 ^ (8 * j)
def getI (bs : List Nat) (p : Nat) : Ins := ⟨bs.getD p 0, bs.getD (p + 1) 0, bs.getD (p + 2) 0, bs.getD (p + 3) 0, wrap64 (sumB bs (p + 4) 8)⟩
def decE (bs : List Nat) (n : Nat) : Nat → Nat → Int × Int
 | _, 0 => (0, 0)
 | i, m + 1 => if (wrong (getI bs (12 * i)) n 8).1 ≠ 0 then ((wrong (getI bs (12 * i)) n 8).1, 12 * i + (wrong (getI bs (12 * i)) n 8).2) else decE bs n (i + 1) m
def decR (bs : List Nat) : Int × Int :=
 if 3072 < bs.length then (3, 3072) else if bs.length % 12 ≠ 0 then (5, bs.length) else decE bs (bs.length / 12) 0 (bs.length / 12)
def decL (bs : List Nat) (n : Nat) : List Ins := (List.range n).map fun i => getI bs (12 * i)
theorem decE_at (bs : List Nat) (n : Nat) : ∀ (m s i : Nat), i < m → (∀ j, j < i → (wrong (getI bs (12 * (s + j))) n 8).1 = 0) → (wrong (getI bs (12 * (s + i))) n 8).1 ≠ 0 → decE bs n s m = ((wrong (getI bs (12 * (s + i))) n 8).1, 12 * ((s + i : Nat) : Int) + (wrong (getI bs (12 * (s + i))) n 8).2)
 | 0, _, i, h, _, _ => absurd h (Nat.not_lt_zero i)
 | m + 1, s, 0, _, _, h => by simp only [decE, Nat.add_zero] at *; rw [if_pos h]
 | m + 1, s, i + 1, hi, hb, h => by
  have h0 := hb 0 (by omega)
  have ih := decE_at bs n m (s + 1) i (by omega) (fun j hj => by have := hb (j + 1) (by omega); rwa [show s + 1 + j = s + (j + 1) by omega]) (by rwa [show s + 1 + i = s + (i + 1) by omega])
  simp only [Nat.add_zero] at h0
  simp only [decE, h0, ne_eq, not_true, if_false]
  rw [ih, show s + 1 + i = s + (i + 1) by omega]
theorem decE_none (bs : List Nat) (n : Nat) : ∀ (m s : Nat), (∀ j, j < m → (wrong (getI bs (12 * (s + j))) n 8).1 = 0) → decE bs n s m = (0, 0)
 | 0, _, _ => rfl
 | m + 1, s, hb => by
  have h0 := hb 0 (by omega)
  simp only [Nat.add_zero] at h0
  simp only [decE, h0, ne_eq, not_true, if_false]
  exact decE_none bs n m (s + 1) (fun j hj => by have := hb (j + 1) (by omega); rwa [show s + 1 + j = s + (j + 1) by omega])
theorem decL_len (bs : List Nat) (n : Nat) : (decL bs n).length = n := by simp [decL]
theorem decL_at (bs : List Nat) (n j : Nat) (h : j < n) : (decL bs n).getD j default = getI bs (12 * j) := by simp [decL, List.getD_eq_getElem?_getD, h]
theorem wrong_ok {x : Ins} {n k : Int} (h : (wrong x n k).1 = 0) : 0 ≤ x.op ∧ x.op < 34 ∧ regE x.a (hA x.op) = 0 ∧ regE x.b (hB x.op) = 0 ∧ regE x.c (hC x.op) = 0 ∧ immE x.op x.imm n k = 0 := by
 unfold wrong at h
 split at h
 ·simp at h
 ·next h1 =>
  split at h
  ·next h2 => exact absurd h h2
  ·next h2 =>
   split at h
   ·next h3 => exact absurd h h3
   ·next h3 =>
    split at h
    ·next h4 => exact absurd h h4
    ·next h4 =>
     split at h
     ·next h5 => exact absurd h h5
     ·next h5 => simp only [ne_eq, Decidable.not_not] at *; exact ⟨h1.1, h1.2, h2, h3, h4, h5⟩
theorem wrong_at_lt (x : Ins) (n k : Int) : 0 ≤ (wrong x n k).2 ∧ (wrong x n k).2 ≤ 4 := by
 unfold wrong
 repeat' split
 all_goals simp
end Go.Proofs.YthhcecllejddeaaGreatDoor

namespace Go.Proofs.YthhcecllejddeaaGreatDoor
open Go.RowKit
theorem hd {p : Prop} (h : p) : Hid p := h
theorem ret_bool {a b : Bool} (h : a = b) : Ending.returned (.bool a) = .returned (.bool b) := by rw [h]
theorem ret_int {k : IntKind} {a b : Int} (h : a = b) : Ending.returned (.int k a) = .returned (.int k b) := by rw [h]
def insV (x : Ins) : Value := .agg #[.int .i64 x.op, .int .i64 x.a, .int .i64 x.b, .int .i64 x.c, .int .i64 x.imm]
set_option maxRecDepth 100000 in
theorem known_any (o : Int) (w : World) :
  Calls Tryz.prog 214 #[.int .i64 o] w fun e w' => e = .returned (.bool (decide (0 ≤ o) && decide (o < 34))) ∧ w' = w := by
 by_cases h1 : 0 ≤ o
 ·by_cases h2 : o < 34
  ·go_enter Tryz.func214, Tryz.ntmps214
   go_wp2
   go_ret
   exact ⟨ret_bool (by simp [h1, h2]), rfl⟩
  ·have d2 : decide (o < 34) = false := by simpa using h2
   go_enter Tryz.func214, Tryz.ntmps214
   go_wp2
   go_ret
   exact ⟨rfl, rfl⟩
 ·have d1 : decide (0 ≤ o) = false := by simpa using h1
  go_enter Tryz.func214, Tryz.ntmps214
  go_wp2
  go_ret
  exact ⟨rfl, rfl⟩
set_option maxRecDepth 100000 in
theorem unused_any (v : Int) (w : World) :
  Calls Tryz.prog 244 #[.int .i64 v] w fun e w' => e = .returned (.int .i64 (if v = 0 then 0 else 11)) ∧ w' = w := by
 by_cases h1 : v = 0
 ·subst h1
  go_enter Tryz.func244, Tryz.ntmps244
  go_wp2
  go_ret
  exact ⟨ret_int (by simp), rfl⟩
 ·have d1 : (v == 0) = false := by simpa using h1
  go_enter Tryz.func244, Tryz.ntmps244
  go_wp2
  go_ret
  exact ⟨rfl, rfl⟩
set_option maxRecDepth 100000 in
theorem register_any (r : Int) (h : Bool) (w : World) :
  Calls Tryz.prog 216 #[.int .i64 r, .bool h] w fun e w' => e = .returned (.int .i64 (regE r h)) ∧ w' = w := by
 cases h
 ·have hu := unused_any r
  have e0 : regE r false = if r = 0 then 0 else 11 := by simp [regE]
  rw [e0]
  obtain ⟨E, hE⟩ : ∃ E : Int, (if r = 0 then 0 else 11) = E := ⟨_, rfl⟩
  rw [hE] at hu ⊢
  clear hE e0
  go_enter Tryz.func216, Tryz.ntmps216
  go_wp2_with (go_at_call 244; refine (hu _).mono ?_; rintro e w1 ⟨rfl, rfl⟩)
  go_ret
  exact ⟨rfl, rfl⟩
 ·by_cases h1 : r < 0
  ·go_enter Tryz.func216, Tryz.ntmps216
   go_wp2
   go_ret
   exact ⟨ret_int (by simp [regE]; omega), rfl⟩
  ·have d1 : decide (r < 0) = false := by simpa using h1
   by_cases h2 : 8 ≤ r
   ·go_enter Tryz.func216, Tryz.ntmps216
    go_wp2
    go_ret
    exact ⟨ret_int (by simp [regE]; omega), rfl⟩
   ·have d2 : decide (8 ≤ r) = false := by simpa using h2
    go_enter Tryz.func216, Tryz.ntmps216
    go_wp2
    go_ret
    exact ⟨ret_int (by simp [regE]; omega), rfl⟩
set_option maxRecDepth 100000 in
theorem rregister_any (r : Int) (h : Bool) (w : World) :
  Calls Tryz.prog 171 #[.int .i64 r, .bool h] w fun e w' => e = .returned (.int .i64 (regE r h)) ∧ w' = w := by
 cases h
 ·by_cases h1 : r = 0
  ·subst h1
   go_enter Tryz.func171, Tryz.ntmps171
   go_wp2
   go_ret
   exact ⟨ret_int (by simp [regE]), rfl⟩
  ·have d1 : (r == 0) = false := by simpa using h1
   go_enter Tryz.func171, Tryz.ntmps171
   go_wp2
   go_ret
   exact ⟨ret_int (by simp [regE, h1]), rfl⟩
 ·by_cases h1 : r < 0
  ·go_enter Tryz.func171, Tryz.ntmps171
   go_wp2
   go_ret
   exact ⟨ret_int (by simp [regE]; omega), rfl⟩
  ·have d1 : decide (r < 0) = false := by simpa using h1
   by_cases h2 : 8 ≤ r
   ·go_enter Tryz.func171, Tryz.ntmps171
    go_wp2
    go_ret
    exact ⟨ret_int (by simp [regE]; omega), rfl⟩
   ·have d2 : decide (8 ≤ r) = false := by simpa using h2
    go_enter Tryz.func171, Tryz.ntmps171
    go_wp2
    go_ret
    exact ⟨ret_int (by simp [regE]; omega), rfl⟩
end Go.Proofs.YthhcecllejddeaaGreatDoor

namespace Go.Proofs.YthhcecllejddeaaGreatDoor
open Go.RowKit
def tabF : List Int := [0, 9, 3, 7, 7, 7, 7, 7, 7, 7, 7, 7, 7, 7, 7, 7, 7, 7, 7, 7, 3, 3, 8, 9, 7, 3, 3, 1, 1, 8, 8, 1, 1, 1]
def Fld (w : World) : Prop := ∀ i, i < 34 → w.cell? ⟨1, i, none⟩ = some (.int .u8 (tabF.getD i 0))
theorem Fld.kept {w w' : World} (h : Fld w) (hb : Below w.heap.size w w') : Fld w' := fun i hi => (hb.cell (World.block_lt_of_cell? w _ (h i hi))).trans (h i hi)
theorem bitA : ∀ o : Nat, o < 34 → (bits .and .u8 (tabF.getD o 0) 1 == 0) = !hA o := by decide +kernel
theorem bitB : ∀ o : Nat, o < 34 → (bits .and .u8 (tabF.getD o 0) 2 == 0) = !hB o := by decide +kernel
theorem bitC : ∀ o : Nat, o < 34 → (bits .and .u8 (tabF.getD o 0) 4 == 0) = !hC o := by decide +kernel
theorem bitI : ∀ o : Nat, o < 34 → (bits .and .u8 (tabF.getD o 0) 8 == 0) = !hI o := by decide +kernel
theorem has_none {o : Int} (h : ¬ (0 ≤ o ∧ o < 34)) : hA o = false ∧ hB o = false ∧ hC o = false ∧ hI o = false := by
 refine ⟨?_, ?_, ?_, ?_⟩ <;> simp [hA, hB, hC, hI] <;> omega
theorem results_tmp4 {fn : Func} {t u v x : Tmp} (h : fn.results = #[.tmp t, .tmp u, .tmp v, .tmp x]) (tmps : Array Value) (P : Program) (w : World) :
  (results fn tmps).run P w = .ok (.tuple #[tmps.getD t undef, tmps.getD u undef, tmps.getD v undef, tmps.getD x undef]) w := by
 simp [results, h]
theorem ret_bools {a b c d a' b' c' d' : Bool} (h1 : a = a') (h2 : b = b') (h3 : c = c') (h4 : d = d') : Ending.returned (.tuple #[.bool a, .bool b, .bool c, .bool d]) = .returned (.tuple #[.bool a', .bool b', .bool c', .bool d']) := by rw [h1, h2, h3, h4]
set_option maxRecDepth 100000 in
theorem fields_any (o : Int) (w : World) (hF : Fld w) :
  Calls Tryz.prog 215 #[.int .i64 o] w fun e w' => e = .returned (.tuple #[.bool (hA o), .bool (hB o), .bool (hC o), .bool (hI o)]) ∧ w' = w := by
 have hk := known_any o
 by_cases h : 0 ≤ o ∧ o < 34
 ·obtain ⟨n, rfl⟩ := Int.eq_ofNat_of_zero_le h.1
  have hn : n < 34 := by omega
  rw [show (decide (0 ≤ (n : Int)) && decide ((n : Int) < 34)) = true by simp; omega] at hk
  have hc := hF n hn
  have ea := bitA n hn
  have eb := bitB n hn
  have ec := bitC n hn
  have ei := bitI n hn
  generalize tabF.getD n 0 = t at hc ea eb ec ei
  generalize hA (n : Int) = A at ea ⊢
  generalize hB (n : Int) = B at eb ⊢
  generalize hC (n : Int) = C at ec ⊢
  generalize hI (n : Int) = I at ei ⊢
  clear hF h
  go_enter Tryz.func215, Tryz.ntmps215
  go_wp2_with (go_at_call 214; refine (hk _).mono ?_; rintro e w1 ⟨rfl, rfl⟩)
  (try simp only [Exit.inBlock, Exit.then]); refine bodyPost_ret (results_tmp4 rfl _ _ _) rfl ?_
  exact ⟨ret_bools (by simp [bne, ea]) (by simp [bne, eb]) (by simp [bne, ec]) (by simp [bne, ei]), rfl⟩
 ·obtain ⟨e1, e2, e3, e4⟩ := has_none h
  rw [show (decide (0 ≤ o) && decide (o < 34)) = false by simpa using h] at hk
  rw [e1, e2, e3, e4]
  clear e1 e2 e3 e4 h
  go_enter Tryz.func215, Tryz.ntmps215
  go_wp2_with (go_at_call 214; refine (hk _).mono ?_; rintro e w1 ⟨rfl, rfl⟩)
  (try simp only [Exit.inBlock, Exit.then]); refine bodyPost_ret (results_tmp4 rfl _ _ _) rfl ?_
  exact ⟨rfl, rfl⟩
set_option maxRecDepth 100000 in
theorem rfields_1 (w : World) :
  Calls Tryz.prog 170 #[.int .i64 1] w fun e w' => e = .returned (.tuple #[.bool true, .bool false, .bool false, .bool true]) ∧ w' = w := by
 go_enter Tryz.func170, Tryz.ntmps170
 go_wp2
 (try simp only [Exit.inBlock, Exit.then]); refine bodyPost_ret (results_tmp4 rfl _ _ _) rfl ?_
 exact ⟨rfl, rfl⟩
set_option maxRecDepth 100000 in
theorem rfields_2 (w : World) :
  Calls Tryz.prog 170 #[.int .i64 2] w fun e w' => e = .returned (.tuple #[.bool true, .bool true, .bool false, .bool false]) ∧ w' = w := by
 go_enter Tryz.func170, Tryz.ntmps170
 go_wp2
 (try simp only [Exit.inBlock, Exit.then]); refine bodyPost_ret (results_tmp4 rfl _ _ _) rfl ?_
 exact ⟨rfl, rfl⟩
set_option maxRecDepth 100000 in
theorem rfields_3 (w : World) :
  Calls Tryz.prog 170 #[.int .i64 3] w fun e w' => e = .returned (.tuple #[.bool true, .bool true, .bool true, .bool false]) ∧ w' = w := by
 go_enter Tryz.func170, Tryz.ntmps170
 go_wp2
 (try simp only [Exit.inBlock, Exit.then]); refine bodyPost_ret (results_tmp4 rfl _ _ _) rfl ?_
 exact ⟨rfl, rfl⟩
set_option maxRecDepth 100000 in
theorem rfields_4 (w : World) :
  Calls Tryz.prog 170 #[.int .i64 4] w fun e w' => e = .returned (.tuple #[.bool true, .bool true, .bool true, .bool false]) ∧ w' = w := by
 go_enter Tryz.func170, Tryz.ntmps170
 go_wp2
 (try simp only [Exit.inBlock, Exit.then]); refine bodyPost_ret (results_tmp4 rfl _ _ _) rfl ?_
 exact ⟨rfl, rfl⟩
set_option maxRecDepth 100000 in
theorem rfields_5 (w : World) :
  Calls Tryz.prog 170 #[.int .i64 5] w fun e w' => e = .returned (.tuple #[.bool true, .bool true, .bool true, .bool false]) ∧ w' = w := by
 go_enter Tryz.func170, Tryz.ntmps170
 go_wp2
 (try simp only [Exit.inBlock, Exit.then]); refine bodyPost_ret (results_tmp4 rfl _ _ _) rfl ?_
 exact ⟨rfl, rfl⟩
set_option maxRecDepth 100000 in
theorem rfields_6 (w : World) :
  Calls Tryz.prog 170 #[.int .i64 6] w fun e w' => e = .returned (.tuple #[.bool true, .bool true, .bool true, .bool false]) ∧ w' = w := by
 go_enter Tryz.func170, Tryz.ntmps170
 go_wp2
 (try simp only [Exit.inBlock, Exit.then]); refine bodyPost_ret (results_tmp4 rfl _ _ _) rfl ?_
 exact ⟨rfl, rfl⟩
set_option maxRecDepth 100000 in
theorem rfields_7 (w : World) :
  Calls Tryz.prog 170 #[.int .i64 7] w fun e w' => e = .returned (.tuple #[.bool true, .bool true, .bool true, .bool false]) ∧ w' = w := by
 go_enter Tryz.func170, Tryz.ntmps170
 go_wp2
 (try simp only [Exit.inBlock, Exit.then]); refine bodyPost_ret (results_tmp4 rfl _ _ _) rfl ?_
 exact ⟨rfl, rfl⟩
set_option maxRecDepth 100000 in
theorem rfields_8 (w : World) :
  Calls Tryz.prog 170 #[.int .i64 8] w fun e w' => e = .returned (.tuple #[.bool true, .bool true, .bool true, .bool false]) ∧ w' = w := by
 go_enter Tryz.func170, Tryz.ntmps170
 go_wp2
 (try simp only [Exit.inBlock, Exit.then]); refine bodyPost_ret (results_tmp4 rfl _ _ _) rfl ?_
 exact ⟨rfl, rfl⟩
set_option maxRecDepth 100000 in
theorem rfields_9 (w : World) :
  Calls Tryz.prog 170 #[.int .i64 9] w fun e w' => e = .returned (.tuple #[.bool true, .bool true, .bool true, .bool false]) ∧ w' = w := by
 go_enter Tryz.func170, Tryz.ntmps170
 go_wp2
 (try simp only [Exit.inBlock, Exit.then]); refine bodyPost_ret (results_tmp4 rfl _ _ _) rfl ?_
 exact ⟨rfl, rfl⟩
set_option maxRecDepth 100000 in
theorem rfields_10 (w : World) :
  Calls Tryz.prog 170 #[.int .i64 10] w fun e w' => e = .returned (.tuple #[.bool true, .bool true, .bool true, .bool false]) ∧ w' = w := by
 go_enter Tryz.func170, Tryz.ntmps170
 go_wp2
 (try simp only [Exit.inBlock, Exit.then]); refine bodyPost_ret (results_tmp4 rfl _ _ _) rfl ?_
 exact ⟨rfl, rfl⟩
set_option maxRecDepth 100000 in
theorem rfields_11 (w : World) :
  Calls Tryz.prog 170 #[.int .i64 11] w fun e w' => e = .returned (.tuple #[.bool true, .bool true, .bool true, .bool false]) ∧ w' = w := by
 go_enter Tryz.func170, Tryz.ntmps170
 go_wp2
 (try simp only [Exit.inBlock, Exit.then]); refine bodyPost_ret (results_tmp4 rfl _ _ _) rfl ?_
 exact ⟨rfl, rfl⟩
set_option maxRecDepth 100000 in
theorem rfields_12 (w : World) :
  Calls Tryz.prog 170 #[.int .i64 12] w fun e w' => e = .returned (.tuple #[.bool true, .bool true, .bool true, .bool false]) ∧ w' = w := by
 go_enter Tryz.func170, Tryz.ntmps170
 go_wp2
 (try simp only [Exit.inBlock, Exit.then]); refine bodyPost_ret (results_tmp4 rfl _ _ _) rfl ?_
 exact ⟨rfl, rfl⟩
set_option maxRecDepth 100000 in
theorem rfields_13 (w : World) :
  Calls Tryz.prog 170 #[.int .i64 13] w fun e w' => e = .returned (.tuple #[.bool true, .bool true, .bool true, .bool false]) ∧ w' = w := by
 go_enter Tryz.func170, Tryz.ntmps170
 go_wp2
 (try simp only [Exit.inBlock, Exit.then]); refine bodyPost_ret (results_tmp4 rfl _ _ _) rfl ?_
 exact ⟨rfl, rfl⟩
set_option maxRecDepth 100000 in
theorem rfields_14 (w : World) :
  Calls Tryz.prog 170 #[.int .i64 14] w fun e w' => e = .returned (.tuple #[.bool true, .bool true, .bool true, .bool false]) ∧ w' = w := by
 go_enter Tryz.func170, Tryz.ntmps170
 go_wp2
 (try simp only [Exit.inBlock, Exit.then]); refine bodyPost_ret (results_tmp4 rfl _ _ _) rfl ?_
 exact ⟨rfl, rfl⟩
set_option maxRecDepth 100000 in
theorem rfields_15 (w : World) :
  Calls Tryz.prog 170 #[.int .i64 15] w fun e w' => e = .returned (.tuple #[.bool true, .bool true, .bool true, .bool false]) ∧ w' = w := by
 go_enter Tryz.func170, Tryz.ntmps170
 go_wp2
 (try simp only [Exit.inBlock, Exit.then]); refine bodyPost_ret (results_tmp4 rfl _ _ _) rfl ?_
 exact ⟨rfl, rfl⟩
set_option maxRecDepth 100000 in
theorem rfields_16 (w : World) :
  Calls Tryz.prog 170 #[.int .i64 16] w fun e w' => e = .returned (.tuple #[.bool true, .bool true, .bool true, .bool false]) ∧ w' = w := by
 go_enter Tryz.func170, Tryz.ntmps170
 go_wp2
 (try simp only [Exit.inBlock, Exit.then]); refine bodyPost_ret (results_tmp4 rfl _ _ _) rfl ?_
 exact ⟨rfl, rfl⟩
set_option maxRecDepth 100000 in
theorem rfields_17 (w : World) :
  Calls Tryz.prog 170 #[.int .i64 17] w fun e w' => e = .returned (.tuple #[.bool true, .bool true, .bool true, .bool false]) ∧ w' = w := by
 go_enter Tryz.func170, Tryz.ntmps170
 go_wp2
 (try simp only [Exit.inBlock, Exit.then]); refine bodyPost_ret (results_tmp4 rfl _ _ _) rfl ?_
 exact ⟨rfl, rfl⟩
set_option maxRecDepth 100000 in
theorem rfields_18 (w : World) :
  Calls Tryz.prog 170 #[.int .i64 18] w fun e w' => e = .returned (.tuple #[.bool true, .bool true, .bool true, .bool false]) ∧ w' = w := by
 go_enter Tryz.func170, Tryz.ntmps170
 go_wp2
 (try simp only [Exit.inBlock, Exit.then]); refine bodyPost_ret (results_tmp4 rfl _ _ _) rfl ?_
 exact ⟨rfl, rfl⟩
set_option maxRecDepth 100000 in
theorem rfields_19 (w : World) :
  Calls Tryz.prog 170 #[.int .i64 19] w fun e w' => e = .returned (.tuple #[.bool true, .bool true, .bool true, .bool false]) ∧ w' = w := by
 go_enter Tryz.func170, Tryz.ntmps170
 go_wp2
 (try simp only [Exit.inBlock, Exit.then]); refine bodyPost_ret (results_tmp4 rfl _ _ _) rfl ?_
 exact ⟨rfl, rfl⟩
set_option maxRecDepth 100000 in
theorem rfields_20 (w : World) :
  Calls Tryz.prog 170 #[.int .i64 20] w fun e w' => e = .returned (.tuple #[.bool true, .bool true, .bool false, .bool false]) ∧ w' = w := by
 go_enter Tryz.func170, Tryz.ntmps170
 go_wp2
 (try simp only [Exit.inBlock, Exit.then]); refine bodyPost_ret (results_tmp4 rfl _ _ _) rfl ?_
 exact ⟨rfl, rfl⟩
set_option maxRecDepth 100000 in
theorem rfields_21 (w : World) :
  Calls Tryz.prog 170 #[.int .i64 21] w fun e w' => e = .returned (.tuple #[.bool true, .bool true, .bool false, .bool false]) ∧ w' = w := by
 go_enter Tryz.func170, Tryz.ntmps170
 go_wp2
 (try simp only [Exit.inBlock, Exit.then]); refine bodyPost_ret (results_tmp4 rfl _ _ _) rfl ?_
 exact ⟨rfl, rfl⟩
set_option maxRecDepth 100000 in
theorem rfields_22 (w : World) :
  Calls Tryz.prog 170 #[.int .i64 22] w fun e w' => e = .returned (.tuple #[.bool false, .bool false, .bool false, .bool true]) ∧ w' = w := by
 go_enter Tryz.func170, Tryz.ntmps170
 go_wp2
 (try simp only [Exit.inBlock, Exit.then]); refine bodyPost_ret (results_tmp4 rfl _ _ _) rfl ?_
 exact ⟨rfl, rfl⟩
set_option maxRecDepth 100000 in
theorem rfields_23 (w : World) :
  Calls Tryz.prog 170 #[.int .i64 23] w fun e w' => e = .returned (.tuple #[.bool true, .bool false, .bool false, .bool true]) ∧ w' = w := by
 go_enter Tryz.func170, Tryz.ntmps170
 go_wp2
 (try simp only [Exit.inBlock, Exit.then]); refine bodyPost_ret (results_tmp4 rfl _ _ _) rfl ?_
 exact ⟨rfl, rfl⟩
set_option maxRecDepth 100000 in
theorem rfields_24 (w : World) :
  Calls Tryz.prog 170 #[.int .i64 24] w fun e w' => e = .returned (.tuple #[.bool true, .bool true, .bool true, .bool false]) ∧ w' = w := by
 go_enter Tryz.func170, Tryz.ntmps170
 go_wp2
 (try simp only [Exit.inBlock, Exit.then]); refine bodyPost_ret (results_tmp4 rfl _ _ _) rfl ?_
 exact ⟨rfl, rfl⟩
set_option maxRecDepth 100000 in
theorem rfields_25 (w : World) :
  Calls Tryz.prog 170 #[.int .i64 25] w fun e w' => e = .returned (.tuple #[.bool true, .bool true, .bool false, .bool false]) ∧ w' = w := by
 go_enter Tryz.func170, Tryz.ntmps170
 go_wp2
 (try simp only [Exit.inBlock, Exit.then]); refine bodyPost_ret (results_tmp4 rfl _ _ _) rfl ?_
 exact ⟨rfl, rfl⟩
set_option maxRecDepth 100000 in
theorem rfields_26 (w : World) :
  Calls Tryz.prog 170 #[.int .i64 26] w fun e w' => e = .returned (.tuple #[.bool true, .bool true, .bool false, .bool false]) ∧ w' = w := by
 go_enter Tryz.func170, Tryz.ntmps170
 go_wp2
 (try simp only [Exit.inBlock, Exit.then]); refine bodyPost_ret (results_tmp4 rfl _ _ _) rfl ?_
 exact ⟨rfl, rfl⟩
set_option maxRecDepth 100000 in
theorem rfields_27 (w : World) :
  Calls Tryz.prog 170 #[.int .i64 27] w fun e w' => e = .returned (.tuple #[.bool true, .bool false, .bool false, .bool false]) ∧ w' = w := by
 go_enter Tryz.func170, Tryz.ntmps170
 go_wp2
 (try simp only [Exit.inBlock, Exit.then]); refine bodyPost_ret (results_tmp4 rfl _ _ _) rfl ?_
 exact ⟨rfl, rfl⟩
set_option maxRecDepth 100000 in
theorem rfields_28 (w : World) :
  Calls Tryz.prog 170 #[.int .i64 28] w fun e w' => e = .returned (.tuple #[.bool true, .bool false, .bool false, .bool false]) ∧ w' = w := by
 go_enter Tryz.func170, Tryz.ntmps170
 go_wp2
 (try simp only [Exit.inBlock, Exit.then]); refine bodyPost_ret (results_tmp4 rfl _ _ _) rfl ?_
 exact ⟨rfl, rfl⟩
set_option maxRecDepth 100000 in
theorem rfields_29 (w : World) :
  Calls Tryz.prog 170 #[.int .i64 29] w fun e w' => e = .returned (.tuple #[.bool false, .bool false, .bool false, .bool true]) ∧ w' = w := by
 go_enter Tryz.func170, Tryz.ntmps170
 go_wp2
 (try simp only [Exit.inBlock, Exit.then]); refine bodyPost_ret (results_tmp4 rfl _ _ _) rfl ?_
 exact ⟨rfl, rfl⟩
set_option maxRecDepth 100000 in
theorem rfields_30 (w : World) :
  Calls Tryz.prog 170 #[.int .i64 30] w fun e w' => e = .returned (.tuple #[.bool false, .bool false, .bool false, .bool true]) ∧ w' = w := by
 go_enter Tryz.func170, Tryz.ntmps170
 go_wp2
 (try simp only [Exit.inBlock, Exit.then]); refine bodyPost_ret (results_tmp4 rfl _ _ _) rfl ?_
 exact ⟨rfl, rfl⟩
set_option maxRecDepth 100000 in
theorem rfields_31 (w : World) :
  Calls Tryz.prog 170 #[.int .i64 31] w fun e w' => e = .returned (.tuple #[.bool true, .bool false, .bool false, .bool false]) ∧ w' = w := by
 go_enter Tryz.func170, Tryz.ntmps170
 go_wp2
 (try simp only [Exit.inBlock, Exit.then]); refine bodyPost_ret (results_tmp4 rfl _ _ _) rfl ?_
 exact ⟨rfl, rfl⟩
set_option maxRecDepth 100000 in
theorem rfields_32 (w : World) :
  Calls Tryz.prog 170 #[.int .i64 32] w fun e w' => e = .returned (.tuple #[.bool true, .bool false, .bool false, .bool false]) ∧ w' = w := by
 go_enter Tryz.func170, Tryz.ntmps170
 go_wp2
 (try simp only [Exit.inBlock, Exit.then]); refine bodyPost_ret (results_tmp4 rfl _ _ _) rfl ?_
 exact ⟨rfl, rfl⟩
set_option maxRecDepth 100000 in
theorem rfields_33 (w : World) :
  Calls Tryz.prog 170 #[.int .i64 33] w fun e w' => e = .returned (.tuple #[.bool true, .bool false, .bool false, .bool false]) ∧ w' = w := by
 go_enter Tryz.func170, Tryz.ntmps170
 go_wp2
 (try simp only [Exit.inBlock, Exit.then]); refine bodyPost_ret (results_tmp4 rfl _ _ _) rfl ?_
 exact ⟨rfl, rfl⟩
set_option maxRecDepth 100000 in
theorem rfields_no (o : Int) (h : ¬ (1 ≤ o ∧ o < 34)) (w : World) :
  Calls Tryz.prog 170 #[.int .i64 o] w fun e w' => e = .returned (.tuple #[.bool false, .bool false, .bool false, .bool false]) ∧ w' = w := by
 have d1 : (o == 1) = false := by simp; omega
 have d2 : (o == 2) = false := by simp; omega
 have d3 : (o == 3) = false := by simp; omega
 have d4 : (o == 4) = false := by simp; omega
 have d5 : (o == 5) = false := by simp; omega
 have d6 : (o == 6) = false := by simp; omega
 have d7 : (o == 7) = false := by simp; omega
 have d8 : (o == 8) = false := by simp; omega
 have d9 : (o == 9) = false := by simp; omega
 have d10 : (o == 10) = false := by simp; omega
 have d11 : (o == 11) = false := by simp; omega
 have d12 : (o == 12) = false := by simp; omega
 have d13 : (o == 13) = false := by simp; omega
 have d14 : (o == 14) = false := by simp; omega
 have d15 : (o == 15) = false := by simp; omega
 have d16 : (o == 16) = false := by simp; omega
 have d17 : (o == 17) = false := by simp; omega
 have d18 : (o == 18) = false := by simp; omega
 have d19 : (o == 19) = false := by simp; omega
 have d20 : (o == 20) = false := by simp; omega
 have d21 : (o == 21) = false := by simp; omega
 have d22 : (o == 22) = false := by simp; omega
 have d23 : (o == 23) = false := by simp; omega
 have d24 : (o == 24) = false := by simp; omega
 have d25 : (o == 25) = false := by simp; omega
 have d26 : (o == 26) = false := by simp; omega
 have d27 : (o == 27) = false := by simp; omega
 have d28 : (o == 28) = false := by simp; omega
 have d29 : (o == 29) = false := by simp; omega
 have d30 : (o == 30) = false := by simp; omega
 have d31 : (o == 31) = false := by simp; omega
 have d32 : (o == 32) = false := by simp; omega
 have d33 : (o == 33) = false := by simp; omega
 clear h
 go_enter Tryz.func170, Tryz.ntmps170
 go_wp2
 (try simp only [Exit.inBlock, Exit.then]); refine bodyPost_ret (results_tmp4 rfl _ _ _) rfl ?_
 exact ⟨rfl, rfl⟩
theorem rfields_any (o : Int) (w : World) :
  Calls Tryz.prog 170 #[.int .i64 o] w fun e w' => e = .returned (.tuple #[.bool (hA o), .bool (hB o), .bool (hC o), .bool (hI o)]) ∧ w' = w := by
 by_cases h : 1 ≤ o ∧ o < 34
 ·have hc : o = 1 ∨ o = 2 ∨ o = 3 ∨ o = 4 ∨ o = 5 ∨ o = 6 ∨ o = 7 ∨ o = 8 ∨ o = 9 ∨ o = 10 ∨ o = 11 ∨ o = 12 ∨ o = 13 ∨ o = 14 ∨ o = 15 ∨ o = 16 ∨ o = 17 ∨ o = 18 ∨ o = 19 ∨ o = 20 ∨ o = 21 ∨ o = 22 ∨ o = 23 ∨ o = 24 ∨ o = 25 ∨ o = 26 ∨ o = 27 ∨ o = 28 ∨ o = 29 ∨ o = 30 ∨ o = 31 ∨ o = 32 ∨ o = 33 := by omega
  rcases hc with rfl | rfl | rfl | rfl | rfl | rfl | rfl | rfl | rfl | rfl | rfl | rfl | rfl | rfl | rfl | rfl | rfl | rfl | rfl | rfl | rfl | rfl | rfl | rfl | rfl | rfl | rfl | rfl | rfl | rfl | rfl | rfl | rfl
  ·exact rfields_1 w
  ·exact rfields_2 w
  ·exact rfields_3 w
  ·exact rfields_4 w
  ·exact rfields_5 w
  ·exact rfields_6 w
  ·exact rfields_7 w
  ·exact rfields_8 w
  ·exact rfields_9 w
  ·exact rfields_10 w
  ·exact rfields_11 w
  ·exact rfields_12 w
  ·exact rfields_13 w
  ·exact rfields_14 w
  ·exact rfields_15 w
  ·exact rfields_16 w
  ·exact rfields_17 w
  ·exact rfields_18 w
  ·exact rfields_19 w
  ·exact rfields_20 w
  ·exact rfields_21 w
  ·exact rfields_22 w
  ·exact rfields_23 w
  ·exact rfields_24 w
  ·exact rfields_25 w
  ·exact rfields_26 w
  ·exact rfields_27 w
  ·exact rfields_28 w
  ·exact rfields_29 w
  ·exact rfields_30 w
  ·exact rfields_31 w
  ·exact rfields_32 w
  ·exact rfields_33 w
 ·have e : hA o = false ∧ hB o = false ∧ hC o = false ∧ hI o = false := by
   refine ⟨?_, ?_, ?_, ?_⟩ <;> simp [hA, hB, hC, hI] <;> omega
  rw [e.1, e.2.1, e.2.2.1, e.2.2.2]
  exact rfields_no o h w
end Go.Proofs.YthhcecllejddeaaGreatDoor

namespace Go.Proofs.YthhcecllejddeaaGreatDoor
open Go.RowKit
set_option maxRecDepth 100000 in
theorem number_any (o a b c i n k : Int) (w : World) :
  Calls Tryz.prog 217 #[insV ⟨o, a, b, c, i⟩, .bool (hI o), .int .i64 n, .int .i64 k] w fun e w' => e = .returned (.int .i64 (immE o i n k)) ∧ Below w.heap.size w w' := by
 have B0 := Below.refl w.heap.size w
 have B1 : ∀ ob, Below w.heap.size w (w.alloc ob) := fun ob => B0.alloc (Nat.le_refl _) ob
 unfold insV
 by_cases hi : hI o = true
 ·rw [hi]
  have e0 : immE o i n k = (if o = 22 ∨ o = 23 then (if 0 ≤ i ∧ i ≤ n then 0 else 12) else if o = 29 ∨ o = 30 then (if 0 ≤ i ∧ i < k then 0 else 13) else 0) := by simp [immE, hi]
  rw [e0]
  clear hi e0
  by_cases h1 : o = 22 ∨ o = 23
  ·rw [if_pos h1]
   by_cases h2 : i < 0
   ·rw [if_neg (by omega)]
    rcases h1 with rfl | rfl
    ·go_enter Tryz.func217, Tryz.ntmps217
     go_wp2
     go_ret
     exact ⟨rfl, B1 _⟩
    ·go_enter Tryz.func217, Tryz.ntmps217
     go_wp2
     go_ret
     exact ⟨rfl, B1 _⟩
   ·have d2 : decide (i < 0) = false := by simpa using h2
    by_cases h3 : n < i
    ·rw [if_neg (by omega)]
     rcases h1 with rfl | rfl
     ·go_enter Tryz.func217, Tryz.ntmps217
      go_wp2
      go_ret
      exact ⟨rfl, B1 _⟩
     ·go_enter Tryz.func217, Tryz.ntmps217
      go_wp2
      go_ret
      exact ⟨rfl, B1 _⟩
    ·have d3 : decide (n < i) = false := by simpa using h3
     rw [if_pos (by omega)]
     rcases h1 with rfl | rfl
     ·go_enter Tryz.func217, Tryz.ntmps217
      go_wp2
      go_ret
      exact ⟨rfl, B1 _⟩
     ·go_enter Tryz.func217, Tryz.ntmps217
      go_wp2
      go_ret
      exact ⟨rfl, B1 _⟩
  ·rw [if_neg h1]
   have t1 : (o == 22) = false := by simp; omega
   have t2 : (o == 23) = false := by simp; omega
   clear h1
   by_cases h1 : o = 29 ∨ o = 30
   ·rw [if_pos h1]
    clear t1 t2
    by_cases h2 : i < 0
    ·rw [if_neg (by omega)]
     rcases h1 with rfl | rfl
     ·go_enter Tryz.func217, Tryz.ntmps217
      go_wp2
      go_ret
      exact ⟨rfl, B1 _⟩
     ·go_enter Tryz.func217, Tryz.ntmps217
      go_wp2
      go_ret
      exact ⟨rfl, B1 _⟩
    ·have d2 : decide (i < 0) = false := by simpa using h2
     by_cases h3 : k ≤ i
     ·rw [if_neg (by omega)]
      rcases h1 with rfl | rfl
      ·go_enter Tryz.func217, Tryz.ntmps217
       go_wp2
       go_ret
       exact ⟨rfl, B1 _⟩
      ·go_enter Tryz.func217, Tryz.ntmps217
       go_wp2
       go_ret
       exact ⟨rfl, B1 _⟩
     ·have d3 : decide (k ≤ i) = false := by simpa using h3
      rw [if_pos (by omega)]
      rcases h1 with rfl | rfl
      ·go_enter Tryz.func217, Tryz.ntmps217
       go_wp2
       go_ret
       exact ⟨rfl, B1 _⟩
      ·go_enter Tryz.func217, Tryz.ntmps217
       go_wp2
       go_ret
       exact ⟨rfl, B1 _⟩
   ·rw [if_neg h1]
    have t3 : (o == 29) = false := by simp; omega
    have t4 : (o == 30) = false := by simp; omega
    clear h1
    go_enter Tryz.func217, Tryz.ntmps217
    go_wp2
    go_ret
    exact ⟨rfl, B1 _⟩
 ·have hu := unused_any i
  have hf : hI o = false := by simpa using hi
  have e0 : immE o i n k = if i = 0 then 0 else 11 := by simp [immE, hf]
  rw [hf, e0]
  obtain ⟨E, hE⟩ : ∃ E : Int, (if i = 0 then 0 else 11) = E := ⟨_, rfl⟩
  rw [hE] at hu ⊢
  clear hE e0 hi hf
  go_enter Tryz.func217, Tryz.ntmps217
  go_wp2_with (go_at_call 244; refine (hu _).mono ?_; rintro e w1 ⟨rfl, rfl⟩)
  go_ret
  exact ⟨rfl, B1 _⟩
end Go.Proofs.YthhcecllejddeaaGreatDoor

namespace Go.Proofs.YthhcecllejddeaaGreatDoor
open Go.RowKit
theorem wrong_op {x : Ins} {n k : Int} (h : ¬ (0 ≤ x.op ∧ x.op < 34)) : wrong x n k = (9, 0) := by unfold wrong; rw [if_pos h]
theorem wrong_a {x : Ins} {n k : Int} (h : 0 ≤ x.op ∧ x.op < 34) (ha : regE x.a (hA x.op) ≠ 0) : wrong x n k = (regE x.a (hA x.op), 1) := by
 unfold wrong; rw [if_neg (by simpa using h), if_pos ha]
theorem wrong_b {x : Ins} {n k : Int} (h : 0 ≤ x.op ∧ x.op < 34) (ha : regE x.a (hA x.op) = 0) (hb : regE x.b (hB x.op) ≠ 0) : wrong x n k = (regE x.b (hB x.op), 2) := by
 unfold wrong; rw [if_neg (by simpa using h), if_neg (by simpa using ha), if_pos hb]
theorem wrong_c {x : Ins} {n k : Int} (h : 0 ≤ x.op ∧ x.op < 34) (ha : regE x.a (hA x.op) = 0) (hb : regE x.b (hB x.op) = 0) (hc : regE x.c (hC x.op) ≠ 0) : wrong x n k = (regE x.c (hC x.op), 3) := by
 unfold wrong; rw [if_neg (by simpa using h), if_neg (by simpa using ha), if_neg (by simpa using hb), if_pos hc]
theorem wrong_i {x : Ins} {n k : Int} (h : 0 ≤ x.op ∧ x.op < 34) (ha : regE x.a (hA x.op) = 0) (hb : regE x.b (hB x.op) = 0) (hc : regE x.c (hC x.op) = 0) (hi : immE x.op x.imm n k ≠ 0) : wrong x n k = (immE x.op x.imm n k, 4) := by
 unfold wrong; rw [if_neg (by simpa using h), if_neg (by simpa using ha), if_neg (by simpa using hb), if_neg (by simpa using hc), if_pos hi]
theorem wrong_no {x : Ins} {n k : Int} (h : 0 ≤ x.op ∧ x.op < 34) (ha : regE x.a (hA x.op) = 0) (hb : regE x.b (hB x.op) = 0) (hc : regE x.c (hC x.op) = 0) (hi : immE x.op x.imm n k = 0) : wrong x n k = (0, 0) := by
 unfold wrong; rw [if_neg (by simpa using h), if_neg (by simpa using ha), if_neg (by simpa using hb), if_neg (by simpa using hc), if_neg (by simpa using hi)]
set_option maxRecDepth 100000 in
set_option maxHeartbeats 1000000 in
theorem fault_0 (o a b c i n k : Int) (w : World) (hF : Fld w) (h : 0 ≤ o ∧ o < 34) (ea : regE a (hA o) ≠ 0) :
  Calls Tryz.prog 172 #[insV ⟨o, a, b, c, i⟩, .int .i64 n, .int .i64 k] w fun e w' => e = .returned (.tuple #[.int .i64 (wrong ⟨o, a, b, c, i⟩ n k).1, .int .i64 (wrong ⟨o, a, b, c, i⟩ n k).2]) ∧ Below w.heap.size w w' := by
 rw [wrong_a (x := ⟨o, a, b, c, i⟩) h ea]
 have B0 := Below.refl w.heap.size w
 have B1 : ∀ ob, Below w.heap.size w (w.alloc ob) := fun ob => B0.alloc (Nat.le_refl _) ob
 have hk := known_any o
 rw [show (decide (0 ≤ o) && decide (o < 34)) = true by simp; omega] at hk
 have hf : ∀ W, Below w.heap.size w W → _ := fun W hb => fields_any o W (hF.kept hb)
 have hi := number_any o a b c i n k
 unfold insV at hi
 have ha := register_any a (hA o)
 have hb := register_any b (hB o)
 have hc := register_any c (hC o)
 simp only
 generalize regE a (hA o) = E at ea ha ⊢
 have dq : (E == 0) = false := by simpa using ea
 unfold insV
 clear hF h ea
 generalize hA o = A at hf ha
 generalize hB o = B at hf hb
 generalize hC o = C at hf hc
 generalize hI o = I at hf hi
 go_enter Tryz.func172, Tryz.ntmps172
 go_wp2_with fail
 refine (hk _).mono ?_
 rintro e w1 ⟨rfl, rfl⟩
 go_wp2_with fail
 refine (hf _ (B1 _)).mono ?_
 rintro e w1 ⟨rfl, rfl⟩
 go_wp2_with fail
 refine (ha _).mono ?_
 rintro e w1 ⟨rfl, rfl⟩
 have b1 := B1
 go_wp2_with fail
 go_ret2
 exact ⟨rfl, b1 _⟩
set_option maxRecDepth 100000 in
set_option maxHeartbeats 1000000 in
theorem fault_1 (o a b c i n k : Int) (w : World) (hF : Fld w) (h : 0 ≤ o ∧ o < 34) (ea : regE a (hA o) = 0) (eb : regE b (hB o) ≠ 0) :
  Calls Tryz.prog 172 #[insV ⟨o, a, b, c, i⟩, .int .i64 n, .int .i64 k] w fun e w' => e = .returned (.tuple #[.int .i64 (wrong ⟨o, a, b, c, i⟩ n k).1, .int .i64 (wrong ⟨o, a, b, c, i⟩ n k).2]) ∧ Below w.heap.size w w' := by
 rw [wrong_b (x := ⟨o, a, b, c, i⟩) h ea eb]
 have B0 := Below.refl w.heap.size w
 have B1 : ∀ ob, Below w.heap.size w (w.alloc ob) := fun ob => B0.alloc (Nat.le_refl _) ob
 have hk := known_any o
 rw [show (decide (0 ≤ o) && decide (o < 34)) = true by simp; omega] at hk
 have hf : ∀ W, Below w.heap.size w W → _ := fun W hb => fields_any o W (hF.kept hb)
 have hi := number_any o a b c i n k
 unfold insV at hi
 have ha := register_any a (hA o)
 have hb := register_any b (hB o)
 have hc := register_any c (hC o)
 rw [ea] at ha
 simp only
 generalize regE b (hB o) = E at eb hb ⊢
 have dq : (E == 0) = false := by simpa using eb
 unfold insV
 clear hF h ea eb
 generalize hA o = A at hf ha
 generalize hB o = B at hf hb
 generalize hC o = C at hf hc
 generalize hI o = I at hf hi
 go_enter Tryz.func172, Tryz.ntmps172
 go_wp2_with fail
 refine (hk _).mono ?_
 rintro e w1 ⟨rfl, rfl⟩
 go_wp2_with fail
 refine (hf _ (B1 _)).mono ?_
 rintro e w1 ⟨rfl, rfl⟩
 go_wp2_with fail
 refine (ha _).mono ?_
 rintro e w1 ⟨rfl, rfl⟩
 go_wp2_with fail
 refine (hb _).mono ?_
 rintro e w1 ⟨rfl, rfl⟩
 have b1 := B1
 go_wp2_with fail
 go_ret2
 exact ⟨rfl, b1 _⟩
set_option maxRecDepth 100000 in
set_option maxHeartbeats 1000000 in
theorem fault_2 (o a b c i n k : Int) (w : World) (hF : Fld w) (h : 0 ≤ o ∧ o < 34) (ea : regE a (hA o) = 0) (eb : regE b (hB o) = 0) (ec : regE c (hC o) ≠ 0) :
  Calls Tryz.prog 172 #[insV ⟨o, a, b, c, i⟩, .int .i64 n, .int .i64 k] w fun e w' => e = .returned (.tuple #[.int .i64 (wrong ⟨o, a, b, c, i⟩ n k).1, .int .i64 (wrong ⟨o, a, b, c, i⟩ n k).2]) ∧ Below w.heap.size w w' := by
 rw [wrong_c (x := ⟨o, a, b, c, i⟩) h ea eb ec]
 have B0 := Below.refl w.heap.size w
 have B1 : ∀ ob, Below w.heap.size w (w.alloc ob) := fun ob => B0.alloc (Nat.le_refl _) ob
 have hk := known_any o
 rw [show (decide (0 ≤ o) && decide (o < 34)) = true by simp; omega] at hk
 have hf : ∀ W, Below w.heap.size w W → _ := fun W hb => fields_any o W (hF.kept hb)
 have hi := number_any o a b c i n k
 unfold insV at hi
 have ha := register_any a (hA o)
 have hb := register_any b (hB o)
 have hc := register_any c (hC o)
 rw [ea] at ha
 rw [eb] at hb
 simp only
 generalize regE c (hC o) = E at ec hc ⊢
 have dq : (E == 0) = false := by simpa using ec
 unfold insV
 clear hF h ea eb ec
 generalize hA o = A at hf ha
 generalize hB o = B at hf hb
 generalize hC o = C at hf hc
 generalize hI o = I at hf hi
 go_enter Tryz.func172, Tryz.ntmps172
 go_wp2_with fail
 refine (hk _).mono ?_
 rintro e w1 ⟨rfl, rfl⟩
 go_wp2_with fail
 refine (hf _ (B1 _)).mono ?_
 rintro e w1 ⟨rfl, rfl⟩
 go_wp2_with fail
 refine (ha _).mono ?_
 rintro e w1 ⟨rfl, rfl⟩
 go_wp2_with fail
 refine (hb _).mono ?_
 rintro e w1 ⟨rfl, rfl⟩
 go_wp2_with fail
 refine (hc _).mono ?_
 rintro e w1 ⟨rfl, rfl⟩
 have b1 := B1
 go_wp2_with fail
 go_ret2
 exact ⟨rfl, b1 _⟩
set_option maxRecDepth 100000 in
set_option maxHeartbeats 1000000 in
theorem fault_3 (o a b c i n k : Int) (w : World) (hF : Fld w) (h : 0 ≤ o ∧ o < 34) (ea : regE a (hA o) = 0) (eb : regE b (hB o) = 0) (ec : regE c (hC o) = 0) (ei : immE o i n k ≠ 0) :
  Calls Tryz.prog 172 #[insV ⟨o, a, b, c, i⟩, .int .i64 n, .int .i64 k] w fun e w' => e = .returned (.tuple #[.int .i64 (wrong ⟨o, a, b, c, i⟩ n k).1, .int .i64 (wrong ⟨o, a, b, c, i⟩ n k).2]) ∧ Below w.heap.size w w' := by
 rw [wrong_i (x := ⟨o, a, b, c, i⟩) h ea eb ec ei]
 have B0 := Below.refl w.heap.size w
 have B1 : ∀ ob, Below w.heap.size w (w.alloc ob) := fun ob => B0.alloc (Nat.le_refl _) ob
 have hk := known_any o
 rw [show (decide (0 ≤ o) && decide (o < 34)) = true by simp; omega] at hk
 have hf : ∀ W, Below w.heap.size w W → _ := fun W hb => fields_any o W (hF.kept hb)
 have hi := number_any o a b c i n k
 unfold insV at hi
 have ha := register_any a (hA o)
 have hb := register_any b (hB o)
 have hc := register_any c (hC o)
 rw [ea] at ha
 rw [eb] at hb
 rw [ec] at hc
 simp only
 generalize immE o i n k = E at ei hi ⊢
 have dq : (E == 0) = false := by simpa using ei
 unfold insV
 clear hF h ea eb ec ei
 generalize hA o = A at hf ha
 generalize hB o = B at hf hb
 generalize hC o = C at hf hc
 generalize hI o = I at hf hi
 go_enter Tryz.func172, Tryz.ntmps172
 go_wp2_with fail
 refine (hk _).mono ?_
 rintro e w1 ⟨rfl, rfl⟩
 go_wp2_with fail
 refine (hf _ (B1 _)).mono ?_
 rintro e w1 ⟨rfl, rfl⟩
 go_wp2_with fail
 refine (ha _).mono ?_
 rintro e w1 ⟨rfl, rfl⟩
 go_wp2_with fail
 refine (hb _).mono ?_
 rintro e w1 ⟨rfl, rfl⟩
 go_wp2_with fail
 refine (hc _).mono ?_
 rintro e w1 ⟨rfl, rfl⟩
 go_wp2_with fail
 refine (hi _).mono ?_
 rintro e w1 ⟨rfl, b1⟩
 replace b1 := (B1 _).trans (b1.mono (B1 _).size)
 go_wp2_with fail
 go_ret2
 exact ⟨rfl, b1⟩
set_option maxRecDepth 100000 in
set_option maxHeartbeats 1000000 in
theorem fault_4 (o a b c i n k : Int) (w : World) (hF : Fld w) (h : 0 ≤ o ∧ o < 34) (ea : regE a (hA o) = 0) (eb : regE b (hB o) = 0) (ec : regE c (hC o) = 0) (ei : immE o i n k = 0) :
  Calls Tryz.prog 172 #[insV ⟨o, a, b, c, i⟩, .int .i64 n, .int .i64 k] w fun e w' => e = .returned (.tuple #[.int .i64 (wrong ⟨o, a, b, c, i⟩ n k).1, .int .i64 (wrong ⟨o, a, b, c, i⟩ n k).2]) ∧ Below w.heap.size w w' := by
 rw [wrong_no (x := ⟨o, a, b, c, i⟩) h ea eb ec ei]
 have B0 := Below.refl w.heap.size w
 have B1 : ∀ ob, Below w.heap.size w (w.alloc ob) := fun ob => B0.alloc (Nat.le_refl _) ob
 have hk := known_any o
 rw [show (decide (0 ≤ o) && decide (o < 34)) = true by simp; omega] at hk
 have hf : ∀ W, Below w.heap.size w W → _ := fun W hb => fields_any o W (hF.kept hb)
 have hi := number_any o a b c i n k
 unfold insV at hi
 have ha := register_any a (hA o)
 have hb := register_any b (hB o)
 have hc := register_any c (hC o)
 rw [ea] at ha
 rw [eb] at hb
 rw [ec] at hc
 rw [ei] at hi
 unfold insV
 clear hF h ea eb ec ei
 generalize hA o = A at hf ha
 generalize hB o = B at hf hb
 generalize hC o = C at hf hc
 generalize hI o = I at hf hi
 go_enter Tryz.func172, Tryz.ntmps172
 go_wp2_with fail
 refine (hk _).mono ?_
 rintro e w1 ⟨rfl, rfl⟩
 go_wp2_with fail
 refine (hf _ (B1 _)).mono ?_
 rintro e w1 ⟨rfl, rfl⟩
 go_wp2_with fail
 refine (ha _).mono ?_
 rintro e w1 ⟨rfl, rfl⟩
 go_wp2_with fail
 refine (hb _).mono ?_
 rintro e w1 ⟨rfl, rfl⟩
 go_wp2_with fail
 refine (hc _).mono ?_
 rintro e w1 ⟨rfl, rfl⟩
 go_wp2_with fail
 refine (hi _).mono ?_
 rintro e w1 ⟨rfl, b1⟩
 replace b1 := (B1 _).trans (b1.mono (B1 _).size)
 go_wp2_with fail
 go_ret2
 exact ⟨rfl, b1⟩
set_option maxRecDepth 100000 in
theorem fault_no (o a b c i n k : Int) (w : World) (h : ¬ (0 ≤ o ∧ o < 34)) :
  Calls Tryz.prog 172 #[insV ⟨o, a, b, c, i⟩, .int .i64 n, .int .i64 k] w fun e w' => e = .returned (.tuple #[.int .i64 (wrong ⟨o, a, b, c, i⟩ n k).1, .int .i64 (wrong ⟨o, a, b, c, i⟩ n k).2]) ∧ Below w.heap.size w w' := by
 rw [wrong_op (x := ⟨o, a, b, c, i⟩) h]
 have hk := known_any o
 rw [show (decide (0 ≤ o) && decide (o < 34)) = false by simpa using h] at hk
 unfold insV
 clear h
 go_enter Tryz.func172, Tryz.ntmps172
 go_wp2_with fail
 refine (hk _).mono ?_
 rintro e w1 ⟨rfl, rfl⟩
 go_wp2_with fail
 go_ret2
 exact ⟨rfl, (Below.refl w.heap.size w).alloc (Nat.le_refl _) _⟩
theorem fault_any (x : Ins) (n k : Int) (w : World) (hF : Fld w) :
  Calls Tryz.prog 172 #[insV x, .int .i64 n, .int .i64 k] w fun e w' => e = .returned (.tuple #[.int .i64 (wrong x n k).1, .int .i64 (wrong x n k).2]) ∧ Below w.heap.size w w' := by
 obtain ⟨o, a, b, c, i⟩ := x
 by_cases h : 0 ≤ o ∧ o < 34
 ·by_cases ea : regE a (hA o) = 0
  ·by_cases eb : regE b (hB o) = 0
   ·by_cases ec : regE c (hC o) = 0
    ·by_cases ei : immE o i n k = 0
     ·exact fault_4 o a b c i n k w hF h ea eb ec ei
     ·exact fault_3 o a b c i n k w hF h ea eb ec ei
    ·exact fault_2 o a b c i n k w hF h ea eb ec
   ·exact fault_1 o a b c i n k w hF h ea eb
  ·exact fault_0 o a b c i n k w hF h ea
 ·exact fault_no o a b c i n k w h
set_option maxRecDepth 100000 in
theorem check_any (x : Ins) (n k : Int) (w : World) (hF : Fld w) :
    Calls Tryz.prog 127 #[insV x, .int .i64 n, .int .i64 k] w fun e w' => e = .returned (.int .i64 (wrong x n k).1) ∧ Below w.heap.size w w' := by
  have hf : ∀ W, Below w.heap.size w W → _ := fun W hb => fault_any x n k W (hF.kept hb)
  generalize wrong x n k = R at hf ⊢
  clear hF
  unfold insV at *
  have B0 := Below.refl w.heap.size w
  have B1 : ∀ ob, Below w.heap.size w (w.alloc ob) := fun ob => B0.alloc (Nat.le_refl _) ob
  go_enter Tryz.func127, Tryz.ntmps127
  go_wp2_with fail
  first
    | (refine (hf _ (B1 _)).mono ?_
       rintro e w1 ⟨rfl, b1⟩
       replace b1 := (B1 _).trans (b1.mono (B1 _).size))
    | (refine (hf _ B0).mono ?_
       rintro e w1 ⟨rfl, b1⟩)
  go_wp2_with fail
  go_ret
  exact ⟨rfl, b1⟩
end Go.Proofs.YthhcecllejddeaaGreatDoor
