/- What is wrong with an instruction, by the document's answer. -/
import Derived.Test.YthhcecllejddeaaGreatDoorGCa
import Derived.OwnWalk
import Derived.Laws.AppendOwn
import Derived.Deep.AppendLies
namespace Go.Proofs.YthhcecllejddeaaGreatDoor
open Go.RowKit
set_option maxRecDepth 100000 in
set_option maxHeartbeats 1000000 in
theorem rfault_0 (o a b c i n k : Int) (w : World) (h : 0 ≤ o ∧ o < 34) (ea : regE a (hA o) ≠ 0) :
  Calls Tryz.prog 126 #[insV ⟨o, a, b, c, i⟩, .int .i64 n, .int .i64 k] w fun e w' => e = .returned (.tuple #[.int .i64 (wrong ⟨o, a, b, c, i⟩ n k).1, .int .i64 (wrong ⟨o, a, b, c, i⟩ n k).2]) ∧ Below w.heap.size w w' := by
 rw [wrong_a (x := ⟨o, a, b, c, i⟩) h ea]
 have B1 : ∀ ob, Below w.heap.size w (w.alloc ob) := fun ob => (Below.refl w.heap.size w).alloc (Nat.le_refl _) ob
 have d1 : decide (o < 0) = false := by simp; omega
 have d2 : decide (34 ≤ o) = false := by simp; omega
 have hf := rfields_any o
 have ha := rregister_any a (hA o)
 simp only
 generalize regE a (hA o) = E at ea ha ⊢
 have dq : (E == 0) = false := by simpa using ea
 unfold insV
 clear h ea
 generalize hA o = A at hf ha
 generalize hB o = B at hf
 generalize hC o = C at hf
 generalize hI o = I at hf
 go_enter Tryz.func126, Tryz.ntmps126
 go_wp2_with fail
 refine (hf _).mono ?_
 rintro e w1 ⟨rfl, rfl⟩
 go_wp2_with fail
 refine (ha _).mono ?_
 rintro e w1 ⟨rfl, rfl⟩
 go_wp2_with fail
 go_ret2
 exact ⟨rfl, B1 _⟩
set_option maxRecDepth 100000 in
set_option maxHeartbeats 1000000 in
theorem rfault_1 (o a b c i n k : Int) (w : World) (h : 0 ≤ o ∧ o < 34) (ea : regE a (hA o) = 0) (eb : regE b (hB o) ≠ 0) :
  Calls Tryz.prog 126 #[insV ⟨o, a, b, c, i⟩, .int .i64 n, .int .i64 k] w fun e w' => e = .returned (.tuple #[.int .i64 (wrong ⟨o, a, b, c, i⟩ n k).1, .int .i64 (wrong ⟨o, a, b, c, i⟩ n k).2]) ∧ Below w.heap.size w w' := by
 rw [wrong_b (x := ⟨o, a, b, c, i⟩) h ea eb]
 have B1 : ∀ ob, Below w.heap.size w (w.alloc ob) := fun ob => (Below.refl w.heap.size w).alloc (Nat.le_refl _) ob
 have d1 : decide (o < 0) = false := by simp; omega
 have d2 : decide (34 ≤ o) = false := by simp; omega
 have hf := rfields_any o
 have ha := rregister_any a (hA o)
 rw [ea] at ha
 have hb := rregister_any b (hB o)
 simp only
 generalize regE b (hB o) = E at eb hb ⊢
 have dq : (E == 0) = false := by simpa using eb
 unfold insV
 clear h ea eb
 generalize hA o = A at hf ha
 generalize hB o = B at hf hb
 generalize hC o = C at hf
 generalize hI o = I at hf
 go_enter Tryz.func126, Tryz.ntmps126
 go_wp2_with fail
 refine (hf _).mono ?_
 rintro e w1 ⟨rfl, rfl⟩
 go_wp2_with fail
 refine (ha _).mono ?_
 rintro e w1 ⟨rfl, rfl⟩
 go_wp2_with fail
 refine (hb _).mono ?_
 rintro e w1 ⟨rfl, rfl⟩
 go_wp2_with fail
 go_ret2
 exact ⟨rfl, B1 _⟩
set_option maxRecDepth 100000 in
set_option maxHeartbeats 1000000 in
theorem rfault_2 (o a b c i n k : Int) (w : World) (h : 0 ≤ o ∧ o < 34) (ea : regE a (hA o) = 0) (eb : regE b (hB o) = 0) (ec : regE c (hC o) ≠ 0) :
  Calls Tryz.prog 126 #[insV ⟨o, a, b, c, i⟩, .int .i64 n, .int .i64 k] w fun e w' => e = .returned (.tuple #[.int .i64 (wrong ⟨o, a, b, c, i⟩ n k).1, .int .i64 (wrong ⟨o, a, b, c, i⟩ n k).2]) ∧ Below w.heap.size w w' := by
 rw [wrong_c (x := ⟨o, a, b, c, i⟩) h ea eb ec]
 have B1 : ∀ ob, Below w.heap.size w (w.alloc ob) := fun ob => (Below.refl w.heap.size w).alloc (Nat.le_refl _) ob
 have d1 : decide (o < 0) = false := by simp; omega
 have d2 : decide (34 ≤ o) = false := by simp; omega
 have hf := rfields_any o
 have ha := rregister_any a (hA o)
 rw [ea] at ha
 have hb := rregister_any b (hB o)
 rw [eb] at hb
 have hc := rregister_any c (hC o)
 simp only
 generalize regE c (hC o) = E at ec hc ⊢
 have dq : (E == 0) = false := by simpa using ec
 unfold insV
 clear h ea eb ec
 generalize hA o = A at hf ha
 generalize hB o = B at hf hb
 generalize hC o = C at hf hc
 generalize hI o = I at hf
 go_enter Tryz.func126, Tryz.ntmps126
 go_wp2_with fail
 refine (hf _).mono ?_
 rintro e w1 ⟨rfl, rfl⟩
 go_wp2_with fail
 refine (ha _).mono ?_
 rintro e w1 ⟨rfl, rfl⟩
 go_wp2_with fail
 refine (hb _).mono ?_
 rintro e w1 ⟨rfl, rfl⟩
 go_wp2_with fail
 refine (hc _).mono ?_
 rintro e w1 ⟨rfl, rfl⟩
 go_wp2_with fail
 go_ret2
 exact ⟨rfl, B1 _⟩
set_option maxRecDepth 100000 in
set_option maxHeartbeats 1000000 in
theorem rlast_F0 (o a b c i n k : Int) (A B C : Bool) (w : World) (hf : ∀ w : World, Calls Tryz.prog 170 #[.int .i64 o] w fun e w' => e = .returned (.tuple #[.bool A, .bool B, .bool C, .bool false]) ∧ w' = w)
  (ha : ∀ w : World, Calls Tryz.prog 171 #[.int .i64 a, .bool A] w fun e w' => e = .returned (.int .i64 0) ∧ w' = w)
  (hb : ∀ w : World, Calls Tryz.prog 171 #[.int .i64 b, .bool B] w fun e w' => e = .returned (.int .i64 0) ∧ w' = w)
  (hc : ∀ w : World, Calls Tryz.prog 171 #[.int .i64 c, .bool C] w fun e w' => e = .returned (.int .i64 0) ∧ w' = w) (h : 0 ≤ o ∧ o < 34) (ho : ¬ (o = 22 ∨ o = 23 ∨ o = 29 ∨ o = 30)) (hi : i = 0) :
  Calls Tryz.prog 126 #[insV ⟨o, a, b, c, i⟩, .int .i64 n, .int .i64 k] w fun e w' => e = .returned (.tuple #[.int .i64 0, .int .i64 0]) ∧ Below w.heap.size w w' := by
 have B1 : ∀ ob, Below w.heap.size w (w.alloc ob) := fun ob => (Below.refl w.heap.size w).alloc (Nat.le_refl _) ob
 have d1 : decide (o < 0) = false := by simp; omega
 have d2 : decide (34 ≤ o) = false := by simp; omega
 have t1 : (o == 22) = false := by simp; omega
 have t2 : (o == 23) = false := by simp; omega
 have t3 : (o == 29) = false := by simp; omega
 have t4 : (o == 30) = false := by simp; omega
 subst hi
 clear h ho
 unfold insV
 go_enter Tryz.func126, Tryz.ntmps126
 go_wp2_with fail
 refine (hf _).mono ?_
 rintro e w1 ⟨rfl, rfl⟩
 go_wp2_with fail
 refine (ha _).mono ?_
 rintro e w1 ⟨rfl, rfl⟩
 go_wp2_with fail
 refine (hb _).mono ?_
 rintro e w1 ⟨rfl, rfl⟩
 go_wp2_with fail
 refine (hc _).mono ?_
 rintro e w1 ⟨rfl, rfl⟩
 go_wp2_with fail
 go_ret2
 exact ⟨rfl, B1 _⟩
set_option maxRecDepth 100000 in
set_option maxHeartbeats 1000000 in
theorem rlast_F1 (o a b c i n k : Int) (A B C : Bool) (w : World) (hf : ∀ w : World, Calls Tryz.prog 170 #[.int .i64 o] w fun e w' => e = .returned (.tuple #[.bool A, .bool B, .bool C, .bool false]) ∧ w' = w)
  (ha : ∀ w : World, Calls Tryz.prog 171 #[.int .i64 a, .bool A] w fun e w' => e = .returned (.int .i64 0) ∧ w' = w)
  (hb : ∀ w : World, Calls Tryz.prog 171 #[.int .i64 b, .bool B] w fun e w' => e = .returned (.int .i64 0) ∧ w' = w)
  (hc : ∀ w : World, Calls Tryz.prog 171 #[.int .i64 c, .bool C] w fun e w' => e = .returned (.int .i64 0) ∧ w' = w) (h : 0 ≤ o ∧ o < 34) (hi : i ≠ 0) :
  Calls Tryz.prog 126 #[insV ⟨o, a, b, c, i⟩, .int .i64 n, .int .i64 k] w fun e w' => e = .returned (.tuple #[.int .i64 11, .int .i64 4]) ∧ Below w.heap.size w w' := by
 have B1 : ∀ ob, Below w.heap.size w (w.alloc ob) := fun ob => (Below.refl w.heap.size w).alloc (Nat.le_refl _) ob
 have d1 : decide (o < 0) = false := by simp; omega
 have d2 : decide (34 ≤ o) = false := by simp; omega
 have d3 : (i == 0) = false := by simpa using hi
 clear h hi
 unfold insV
 go_enter Tryz.func126, Tryz.ntmps126
 go_wp2_with fail
 refine (hf _).mono ?_
 rintro e w1 ⟨rfl, rfl⟩
 go_wp2_with fail
 refine (ha _).mono ?_
 rintro e w1 ⟨rfl, rfl⟩
 go_wp2_with fail
 refine (hb _).mono ?_
 rintro e w1 ⟨rfl, rfl⟩
 go_wp2_with fail
 refine (hc _).mono ?_
 rintro e w1 ⟨rfl, rfl⟩
 go_wp2_with fail
 go_ret2
 exact ⟨rfl, B1 _⟩
set_option maxRecDepth 100000 in
set_option maxHeartbeats 1000000 in
theorem rlast_T0 (o a b c i n k : Int) (A B C : Bool) (w : World) (hf : ∀ w : World, Calls Tryz.prog 170 #[.int .i64 o] w fun e w' => e = .returned (.tuple #[.bool A, .bool B, .bool C, .bool true]) ∧ w' = w)
  (ha : ∀ w : World, Calls Tryz.prog 171 #[.int .i64 a, .bool A] w fun e w' => e = .returned (.int .i64 0) ∧ w' = w)
  (hb : ∀ w : World, Calls Tryz.prog 171 #[.int .i64 b, .bool B] w fun e w' => e = .returned (.int .i64 0) ∧ w' = w)
  (hc : ∀ w : World, Calls Tryz.prog 171 #[.int .i64 c, .bool C] w fun e w' => e = .returned (.int .i64 0) ∧ w' = w) (h : 0 ≤ o ∧ o < 34) (ho : ¬ (o = 22 ∨ o = 23 ∨ o = 29 ∨ o = 30)) :
  Calls Tryz.prog 126 #[insV ⟨o, a, b, c, i⟩, .int .i64 n, .int .i64 k] w fun e w' => e = .returned (.tuple #[.int .i64 0, .int .i64 0]) ∧ Below w.heap.size w w' := by
 have B1 : ∀ ob, Below w.heap.size w (w.alloc ob) := fun ob => (Below.refl w.heap.size w).alloc (Nat.le_refl _) ob
 have d1 : decide (o < 0) = false := by simp; omega
 have d2 : decide (34 ≤ o) = false := by simp; omega
 have t1 : (o == 22) = false := by simp; omega
 have t2 : (o == 23) = false := by simp; omega
 have t3 : (o == 29) = false := by simp; omega
 have t4 : (o == 30) = false := by simp; omega
 clear h ho
 unfold insV
 go_enter Tryz.func126, Tryz.ntmps126
 go_wp2_with fail
 refine (hf _).mono ?_
 rintro e w1 ⟨rfl, rfl⟩
 go_wp2_with fail
 refine (ha _).mono ?_
 rintro e w1 ⟨rfl, rfl⟩
 go_wp2_with fail
 refine (hb _).mono ?_
 rintro e w1 ⟨rfl, rfl⟩
 go_wp2_with fail
 refine (hc _).mono ?_
 rintro e w1 ⟨rfl, rfl⟩
 go_wp2_with fail
 go_ret2
 exact ⟨rfl, B1 _⟩
set_option maxRecDepth 100000 in
set_option maxHeartbeats 1000000 in
theorem rlast_Tj22lt (o a b c i n k : Int) (A B C : Bool) (w : World) (hf : ∀ w : World, Calls Tryz.prog 170 #[.int .i64 o] w fun e w' => e = .returned (.tuple #[.bool A, .bool B, .bool C, .bool true]) ∧ w' = w)
  (ha : ∀ w : World, Calls Tryz.prog 171 #[.int .i64 a, .bool A] w fun e w' => e = .returned (.int .i64 0) ∧ w' = w)
  (hb : ∀ w : World, Calls Tryz.prog 171 #[.int .i64 b, .bool B] w fun e w' => e = .returned (.int .i64 0) ∧ w' = w)
  (hc : ∀ w : World, Calls Tryz.prog 171 #[.int .i64 c, .bool C] w fun e w' => e = .returned (.int .i64 0) ∧ w' = w) (ho : o = 22) (hi : i < 0) :
  Calls Tryz.prog 126 #[insV ⟨o, a, b, c, i⟩, .int .i64 n, .int .i64 k] w fun e w' => e = .returned (.tuple #[.int .i64 12, .int .i64 4]) ∧ Below w.heap.size w w' := by
 have B1 : ∀ ob, Below w.heap.size w (w.alloc ob) := fun ob => (Below.refl w.heap.size w).alloc (Nat.le_refl _) ob
 subst ho
 unfold insV
 go_enter Tryz.func126, Tryz.ntmps126
 go_wp2_with fail
 refine (hf _).mono ?_
 rintro e w1 ⟨rfl, rfl⟩
 go_wp2_with fail
 refine (ha _).mono ?_
 rintro e w1 ⟨rfl, rfl⟩
 go_wp2_with fail
 refine (hb _).mono ?_
 rintro e w1 ⟨rfl, rfl⟩
 go_wp2_with fail
 refine (hc _).mono ?_
 rintro e w1 ⟨rfl, rfl⟩
 go_wp2_with fail
 go_ret2
 exact ⟨rfl, B1 _⟩
set_option maxRecDepth 100000 in
set_option maxHeartbeats 1000000 in
theorem rlast_Tj22gt (o a b c i n k : Int) (A B C : Bool) (w : World) (hf : ∀ w : World, Calls Tryz.prog 170 #[.int .i64 o] w fun e w' => e = .returned (.tuple #[.bool A, .bool B, .bool C, .bool true]) ∧ w' = w)
  (ha : ∀ w : World, Calls Tryz.prog 171 #[.int .i64 a, .bool A] w fun e w' => e = .returned (.int .i64 0) ∧ w' = w)
  (hb : ∀ w : World, Calls Tryz.prog 171 #[.int .i64 b, .bool B] w fun e w' => e = .returned (.int .i64 0) ∧ w' = w)
  (hc : ∀ w : World, Calls Tryz.prog 171 #[.int .i64 c, .bool C] w fun e w' => e = .returned (.int .i64 0) ∧ w' = w) (ho : o = 22) (hi : ¬ i < 0) (hn : n < i) :
  Calls Tryz.prog 126 #[insV ⟨o, a, b, c, i⟩, .int .i64 n, .int .i64 k] w fun e w' => e = .returned (.tuple #[.int .i64 12, .int .i64 4]) ∧ Below w.heap.size w w' := by
 have B1 : ∀ ob, Below w.heap.size w (w.alloc ob) := fun ob => (Below.refl w.heap.size w).alloc (Nat.le_refl _) ob
 subst ho
 have d1 : decide (i < 0) = false := by simpa using hi
 clear hi
 unfold insV
 go_enter Tryz.func126, Tryz.ntmps126
 go_wp2_with fail
 refine (hf _).mono ?_
 rintro e w1 ⟨rfl, rfl⟩
 go_wp2_with fail
 refine (ha _).mono ?_
 rintro e w1 ⟨rfl, rfl⟩
 go_wp2_with fail
 refine (hb _).mono ?_
 rintro e w1 ⟨rfl, rfl⟩
 go_wp2_with fail
 refine (hc _).mono ?_
 rintro e w1 ⟨rfl, rfl⟩
 go_wp2_with fail
 go_ret2
 exact ⟨rfl, B1 _⟩
set_option maxRecDepth 100000 in
set_option maxHeartbeats 1000000 in
theorem rlast_Tj22ok (o a b c i n k : Int) (A B C : Bool) (w : World) (hf : ∀ w : World, Calls Tryz.prog 170 #[.int .i64 o] w fun e w' => e = .returned (.tuple #[.bool A, .bool B, .bool C, .bool true]) ∧ w' = w)
  (ha : ∀ w : World, Calls Tryz.prog 171 #[.int .i64 a, .bool A] w fun e w' => e = .returned (.int .i64 0) ∧ w' = w)
  (hb : ∀ w : World, Calls Tryz.prog 171 #[.int .i64 b, .bool B] w fun e w' => e = .returned (.int .i64 0) ∧ w' = w)
  (hc : ∀ w : World, Calls Tryz.prog 171 #[.int .i64 c, .bool C] w fun e w' => e = .returned (.int .i64 0) ∧ w' = w) (ho : o = 22) (hi : ¬ i < 0) (hn : ¬ n < i) :
  Calls Tryz.prog 126 #[insV ⟨o, a, b, c, i⟩, .int .i64 n, .int .i64 k] w fun e w' => e = .returned (.tuple #[.int .i64 0, .int .i64 0]) ∧ Below w.heap.size w w' := by
 have B1 : ∀ ob, Below w.heap.size w (w.alloc ob) := fun ob => (Below.refl w.heap.size w).alloc (Nat.le_refl _) ob
 subst ho
 have d1 : decide (i < 0) = false := by simpa using hi
 have d2 : decide (n < i) = false := by simpa using hn
 clear hi hn
 unfold insV
 go_enter Tryz.func126, Tryz.ntmps126
 go_wp2_with fail
 refine (hf _).mono ?_
 rintro e w1 ⟨rfl, rfl⟩
 go_wp2_with fail
 refine (ha _).mono ?_
 rintro e w1 ⟨rfl, rfl⟩
 go_wp2_with fail
 refine (hb _).mono ?_
 rintro e w1 ⟨rfl, rfl⟩
 go_wp2_with fail
 refine (hc _).mono ?_
 rintro e w1 ⟨rfl, rfl⟩
 go_wp2_with fail
 go_ret2
 exact ⟨rfl, B1 _⟩
set_option maxRecDepth 100000 in
set_option maxHeartbeats 1000000 in
theorem rlast_Tj23lt (o a b c i n k : Int) (A B C : Bool) (w : World) (hf : ∀ w : World, Calls Tryz.prog 170 #[.int .i64 o] w fun e w' => e = .returned (.tuple #[.bool A, .bool B, .bool C, .bool true]) ∧ w' = w)
  (ha : ∀ w : World, Calls Tryz.prog 171 #[.int .i64 a, .bool A] w fun e w' => e = .returned (.int .i64 0) ∧ w' = w)
  (hb : ∀ w : World, Calls Tryz.prog 171 #[.int .i64 b, .bool B] w fun e w' => e = .returned (.int .i64 0) ∧ w' = w)
  (hc : ∀ w : World, Calls Tryz.prog 171 #[.int .i64 c, .bool C] w fun e w' => e = .returned (.int .i64 0) ∧ w' = w) (ho : o = 23) (hi : i < 0) :
  Calls Tryz.prog 126 #[insV ⟨o, a, b, c, i⟩, .int .i64 n, .int .i64 k] w fun e w' => e = .returned (.tuple #[.int .i64 12, .int .i64 4]) ∧ Below w.heap.size w w' := by
 have B1 : ∀ ob, Below w.heap.size w (w.alloc ob) := fun ob => (Below.refl w.heap.size w).alloc (Nat.le_refl _) ob
 subst ho
 unfold insV
 go_enter Tryz.func126, Tryz.ntmps126
 go_wp2_with fail
 refine (hf _).mono ?_
 rintro e w1 ⟨rfl, rfl⟩
 go_wp2_with fail
 refine (ha _).mono ?_
 rintro e w1 ⟨rfl, rfl⟩
 go_wp2_with fail
 refine (hb _).mono ?_
 rintro e w1 ⟨rfl, rfl⟩
 go_wp2_with fail
 refine (hc _).mono ?_
 rintro e w1 ⟨rfl, rfl⟩
 go_wp2_with fail
 go_ret2
 exact ⟨rfl, B1 _⟩
set_option maxRecDepth 100000 in
set_option maxHeartbeats 1000000 in
theorem rlast_Tj23gt (o a b c i n k : Int) (A B C : Bool) (w : World) (hf : ∀ w : World, Calls Tryz.prog 170 #[.int .i64 o] w fun e w' => e = .returned (.tuple #[.bool A, .bool B, .bool C, .bool true]) ∧ w' = w)
  (ha : ∀ w : World, Calls Tryz.prog 171 #[.int .i64 a, .bool A] w fun e w' => e = .returned (.int .i64 0) ∧ w' = w)
  (hb : ∀ w : World, Calls Tryz.prog 171 #[.int .i64 b, .bool B] w fun e w' => e = .returned (.int .i64 0) ∧ w' = w)
  (hc : ∀ w : World, Calls Tryz.prog 171 #[.int .i64 c, .bool C] w fun e w' => e = .returned (.int .i64 0) ∧ w' = w) (ho : o = 23) (hi : ¬ i < 0) (hn : n < i) :
  Calls Tryz.prog 126 #[insV ⟨o, a, b, c, i⟩, .int .i64 n, .int .i64 k] w fun e w' => e = .returned (.tuple #[.int .i64 12, .int .i64 4]) ∧ Below w.heap.size w w' := by
 have B1 : ∀ ob, Below w.heap.size w (w.alloc ob) := fun ob => (Below.refl w.heap.size w).alloc (Nat.le_refl _) ob
 subst ho
 have d1 : decide (i < 0) = false := by simpa using hi
 clear hi
 unfold insV
 go_enter Tryz.func126, Tryz.ntmps126
 go_wp2_with fail
 refine (hf _).mono ?_
 rintro e w1 ⟨rfl, rfl⟩
 go_wp2_with fail
 refine (ha _).mono ?_
 rintro e w1 ⟨rfl, rfl⟩
 go_wp2_with fail
 refine (hb _).mono ?_
 rintro e w1 ⟨rfl, rfl⟩
 go_wp2_with fail
 refine (hc _).mono ?_
 rintro e w1 ⟨rfl, rfl⟩
 go_wp2_with fail
 go_ret2
 exact ⟨rfl, B1 _⟩
set_option maxRecDepth 100000 in
set_option maxHeartbeats 1000000 in
theorem rlast_Tj23ok (o a b c i n k : Int) (A B C : Bool) (w : World) (hf : ∀ w : World, Calls Tryz.prog 170 #[.int .i64 o] w fun e w' => e = .returned (.tuple #[.bool A, .bool B, .bool C, .bool true]) ∧ w' = w)
  (ha : ∀ w : World, Calls Tryz.prog 171 #[.int .i64 a, .bool A] w fun e w' => e = .returned (.int .i64 0) ∧ w' = w)
  (hb : ∀ w : World, Calls Tryz.prog 171 #[.int .i64 b, .bool B] w fun e w' => e = .returned (.int .i64 0) ∧ w' = w)
  (hc : ∀ w : World, Calls Tryz.prog 171 #[.int .i64 c, .bool C] w fun e w' => e = .returned (.int .i64 0) ∧ w' = w) (ho : o = 23) (hi : ¬ i < 0) (hn : ¬ n < i) :
  Calls Tryz.prog 126 #[insV ⟨o, a, b, c, i⟩, .int .i64 n, .int .i64 k] w fun e w' => e = .returned (.tuple #[.int .i64 0, .int .i64 0]) ∧ Below w.heap.size w w' := by
 have B1 : ∀ ob, Below w.heap.size w (w.alloc ob) := fun ob => (Below.refl w.heap.size w).alloc (Nat.le_refl _) ob
 subst ho
 have d1 : decide (i < 0) = false := by simpa using hi
 have d2 : decide (n < i) = false := by simpa using hn
 clear hi hn
 unfold insV
 go_enter Tryz.func126, Tryz.ntmps126
 go_wp2_with fail
 refine (hf _).mono ?_
 rintro e w1 ⟨rfl, rfl⟩
 go_wp2_with fail
 refine (ha _).mono ?_
 rintro e w1 ⟨rfl, rfl⟩
 go_wp2_with fail
 refine (hb _).mono ?_
 rintro e w1 ⟨rfl, rfl⟩
 go_wp2_with fail
 refine (hc _).mono ?_
 rintro e w1 ⟨rfl, rfl⟩
 go_wp2_with fail
 go_ret2
 exact ⟨rfl, B1 _⟩
set_option maxRecDepth 100000 in
set_option maxHeartbeats 1000000 in
theorem rlast_Tl29lt (o a b c i n k : Int) (A B C : Bool) (w : World) (hf : ∀ w : World, Calls Tryz.prog 170 #[.int .i64 o] w fun e w' => e = .returned (.tuple #[.bool A, .bool B, .bool C, .bool true]) ∧ w' = w)
  (ha : ∀ w : World, Calls Tryz.prog 171 #[.int .i64 a, .bool A] w fun e w' => e = .returned (.int .i64 0) ∧ w' = w)
  (hb : ∀ w : World, Calls Tryz.prog 171 #[.int .i64 b, .bool B] w fun e w' => e = .returned (.int .i64 0) ∧ w' = w)
  (hc : ∀ w : World, Calls Tryz.prog 171 #[.int .i64 c, .bool C] w fun e w' => e = .returned (.int .i64 0) ∧ w' = w) (ho : o = 29) (hi : i < 0) :
  Calls Tryz.prog 126 #[insV ⟨o, a, b, c, i⟩, .int .i64 n, .int .i64 k] w fun e w' => e = .returned (.tuple #[.int .i64 13, .int .i64 4]) ∧ Below w.heap.size w w' := by
 have B1 : ∀ ob, Below w.heap.size w (w.alloc ob) := fun ob => (Below.refl w.heap.size w).alloc (Nat.le_refl _) ob
 subst ho
 unfold insV
 go_enter Tryz.func126, Tryz.ntmps126
 go_wp2_with fail
 refine (hf _).mono ?_
 rintro e w1 ⟨rfl, rfl⟩
 go_wp2_with fail
 refine (ha _).mono ?_
 rintro e w1 ⟨rfl, rfl⟩
 go_wp2_with fail
 refine (hb _).mono ?_
 rintro e w1 ⟨rfl, rfl⟩
 go_wp2_with fail
 refine (hc _).mono ?_
 rintro e w1 ⟨rfl, rfl⟩
 go_wp2_with fail
 go_ret2
 exact ⟨rfl, B1 _⟩
set_option maxRecDepth 100000 in
set_option maxHeartbeats 1000000 in
theorem rlast_Tl29gt (o a b c i n k : Int) (A B C : Bool) (w : World) (hf : ∀ w : World, Calls Tryz.prog 170 #[.int .i64 o] w fun e w' => e = .returned (.tuple #[.bool A, .bool B, .bool C, .bool true]) ∧ w' = w)
  (ha : ∀ w : World, Calls Tryz.prog 171 #[.int .i64 a, .bool A] w fun e w' => e = .returned (.int .i64 0) ∧ w' = w)
  (hb : ∀ w : World, Calls Tryz.prog 171 #[.int .i64 b, .bool B] w fun e w' => e = .returned (.int .i64 0) ∧ w' = w)
  (hc : ∀ w : World, Calls Tryz.prog 171 #[.int .i64 c, .bool C] w fun e w' => e = .returned (.int .i64 0) ∧ w' = w) (ho : o = 29) (hi : ¬ i < 0) (hn : k ≤ i) :
  Calls Tryz.prog 126 #[insV ⟨o, a, b, c, i⟩, .int .i64 n, .int .i64 k] w fun e w' => e = .returned (.tuple #[.int .i64 13, .int .i64 4]) ∧ Below w.heap.size w w' := by
 have B1 : ∀ ob, Below w.heap.size w (w.alloc ob) := fun ob => (Below.refl w.heap.size w).alloc (Nat.le_refl _) ob
 subst ho
 have d1 : decide (i < 0) = false := by simpa using hi
 clear hi
 unfold insV
 go_enter Tryz.func126, Tryz.ntmps126
 go_wp2_with fail
 refine (hf _).mono ?_
 rintro e w1 ⟨rfl, rfl⟩
 go_wp2_with fail
 refine (ha _).mono ?_
 rintro e w1 ⟨rfl, rfl⟩
 go_wp2_with fail
 refine (hb _).mono ?_
 rintro e w1 ⟨rfl, rfl⟩
 go_wp2_with fail
 refine (hc _).mono ?_
 rintro e w1 ⟨rfl, rfl⟩
 go_wp2_with fail
 go_ret2
 exact ⟨rfl, B1 _⟩
set_option maxRecDepth 100000 in
set_option maxHeartbeats 1000000 in
theorem rlast_Tl29ok (o a b c i n k : Int) (A B C : Bool) (w : World) (hf : ∀ w : World, Calls Tryz.prog 170 #[.int .i64 o] w fun e w' => e = .returned (.tuple #[.bool A, .bool B, .bool C, .bool true]) ∧ w' = w)
  (ha : ∀ w : World, Calls Tryz.prog 171 #[.int .i64 a, .bool A] w fun e w' => e = .returned (.int .i64 0) ∧ w' = w)
  (hb : ∀ w : World, Calls Tryz.prog 171 #[.int .i64 b, .bool B] w fun e w' => e = .returned (.int .i64 0) ∧ w' = w)
  (hc : ∀ w : World, Calls Tryz.prog 171 #[.int .i64 c, .bool C] w fun e w' => e = .returned (.int .i64 0) ∧ w' = w) (ho : o = 29) (hi : ¬ i < 0) (hn : ¬ k ≤ i) :
  Calls Tryz.prog 126 #[insV ⟨o, a, b, c, i⟩, .int .i64 n, .int .i64 k] w fun e w' => e = .returned (.tuple #[.int .i64 0, .int .i64 0]) ∧ Below w.heap.size w w' := by
 have B1 : ∀ ob, Below w.heap.size w (w.alloc ob) := fun ob => (Below.refl w.heap.size w).alloc (Nat.le_refl _) ob
 subst ho
 have d1 : decide (i < 0) = false := by simpa using hi
 have d2 : decide (k ≤ i) = false := by simpa using hn
 clear hi hn
 unfold insV
 go_enter Tryz.func126, Tryz.ntmps126
 go_wp2_with fail
 refine (hf _).mono ?_
 rintro e w1 ⟨rfl, rfl⟩
 go_wp2_with fail
 refine (ha _).mono ?_
 rintro e w1 ⟨rfl, rfl⟩
 go_wp2_with fail
 refine (hb _).mono ?_
 rintro e w1 ⟨rfl, rfl⟩
 go_wp2_with fail
 refine (hc _).mono ?_
 rintro e w1 ⟨rfl, rfl⟩
 go_wp2_with fail
 go_ret2
 exact ⟨rfl, B1 _⟩
set_option maxRecDepth 100000 in
set_option maxHeartbeats 1000000 in
theorem rlast_Tl30lt (o a b c i n k : Int) (A B C : Bool) (w : World) (hf : ∀ w : World, Calls Tryz.prog 170 #[.int .i64 o] w fun e w' => e = .returned (.tuple #[.bool A, .bool B, .bool C, .bool true]) ∧ w' = w)
  (ha : ∀ w : World, Calls Tryz.prog 171 #[.int .i64 a, .bool A] w fun e w' => e = .returned (.int .i64 0) ∧ w' = w)
  (hb : ∀ w : World, Calls Tryz.prog 171 #[.int .i64 b, .bool B] w fun e w' => e = .returned (.int .i64 0) ∧ w' = w)
  (hc : ∀ w : World, Calls Tryz.prog 171 #[.int .i64 c, .bool C] w fun e w' => e = .returned (.int .i64 0) ∧ w' = w) (ho : o = 30) (hi : i < 0) :
  Calls Tryz.prog 126 #[insV ⟨o, a, b, c, i⟩, .int .i64 n, .int .i64 k] w fun e w' => e = .returned (.tuple #[.int .i64 13, .int .i64 4]) ∧ Below w.heap.size w w' := by
 have B1 : ∀ ob, Below w.heap.size w (w.alloc ob) := fun ob => (Below.refl w.heap.size w).alloc (Nat.le_refl _) ob
 subst ho
 unfold insV
 go_enter Tryz.func126, Tryz.ntmps126
 go_wp2_with fail
 refine (hf _).mono ?_
 rintro e w1 ⟨rfl, rfl⟩
 go_wp2_with fail
 refine (ha _).mono ?_
 rintro e w1 ⟨rfl, rfl⟩
 go_wp2_with fail
 refine (hb _).mono ?_
 rintro e w1 ⟨rfl, rfl⟩
 go_wp2_with fail
 refine (hc _).mono ?_
 rintro e w1 ⟨rfl, rfl⟩
 go_wp2_with fail
 go_ret2
 exact ⟨rfl, B1 _⟩
set_option maxRecDepth 100000 in
set_option maxHeartbeats 1000000 in
theorem rlast_Tl30gt (o a b c i n k : Int) (A B C : Bool) (w : World) (hf : ∀ w : World, Calls Tryz.prog 170 #[.int .i64 o] w fun e w' => e = .returned (.tuple #[.bool A, .bool B, .bool C, .bool true]) ∧ w' = w)
  (ha : ∀ w : World, Calls Tryz.prog 171 #[.int .i64 a, .bool A] w fun e w' => e = .returned (.int .i64 0) ∧ w' = w)
  (hb : ∀ w : World, Calls Tryz.prog 171 #[.int .i64 b, .bool B] w fun e w' => e = .returned (.int .i64 0) ∧ w' = w)
  (hc : ∀ w : World, Calls Tryz.prog 171 #[.int .i64 c, .bool C] w fun e w' => e = .returned (.int .i64 0) ∧ w' = w) (ho : o = 30) (hi : ¬ i < 0) (hn : k ≤ i) :
  Calls Tryz.prog 126 #[insV ⟨o, a, b, c, i⟩, .int .i64 n, .int .i64 k] w fun e w' => e = .returned (.tuple #[.int .i64 13, .int .i64 4]) ∧ Below w.heap.size w w' := by
 have B1 : ∀ ob, Below w.heap.size w (w.alloc ob) := fun ob => (Below.refl w.heap.size w).alloc (Nat.le_refl _) ob
 subst ho
 have d1 : decide (i < 0) = false := by simpa using hi
 clear hi
 unfold insV
 go_enter Tryz.func126, Tryz.ntmps126
 go_wp2_with fail
 refine (hf _).mono ?_
 rintro e w1 ⟨rfl, rfl⟩
 go_wp2_with fail
 refine (ha _).mono ?_
 rintro e w1 ⟨rfl, rfl⟩
 go_wp2_with fail
 refine (hb _).mono ?_
 rintro e w1 ⟨rfl, rfl⟩
 go_wp2_with fail
 refine (hc _).mono ?_
 rintro e w1 ⟨rfl, rfl⟩
 go_wp2_with fail
 go_ret2
 exact ⟨rfl, B1 _⟩
set_option maxRecDepth 100000 in
set_option maxHeartbeats 1000000 in
theorem rlast_Tl30ok (o a b c i n k : Int) (A B C : Bool) (w : World) (hf : ∀ w : World, Calls Tryz.prog 170 #[.int .i64 o] w fun e w' => e = .returned (.tuple #[.bool A, .bool B, .bool C, .bool true]) ∧ w' = w)
  (ha : ∀ w : World, Calls Tryz.prog 171 #[.int .i64 a, .bool A] w fun e w' => e = .returned (.int .i64 0) ∧ w' = w)
  (hb : ∀ w : World, Calls Tryz.prog 171 #[.int .i64 b, .bool B] w fun e w' => e = .returned (.int .i64 0) ∧ w' = w)
  (hc : ∀ w : World, Calls Tryz.prog 171 #[.int .i64 c, .bool C] w fun e w' => e = .returned (.int .i64 0) ∧ w' = w) (ho : o = 30) (hi : ¬ i < 0) (hn : ¬ k ≤ i) :
  Calls Tryz.prog 126 #[insV ⟨o, a, b, c, i⟩, .int .i64 n, .int .i64 k] w fun e w' => e = .returned (.tuple #[.int .i64 0, .int .i64 0]) ∧ Below w.heap.size w w' := by
 have B1 : ∀ ob, Below w.heap.size w (w.alloc ob) := fun ob => (Below.refl w.heap.size w).alloc (Nat.le_refl _) ob
 subst ho
 have d1 : decide (i < 0) = false := by simpa using hi
 have d2 : decide (k ≤ i) = false := by simpa using hn
 clear hi hn
 unfold insV
 go_enter Tryz.func126, Tryz.ntmps126
 go_wp2_with fail
 refine (hf _).mono ?_
 rintro e w1 ⟨rfl, rfl⟩
 go_wp2_with fail
 refine (ha _).mono ?_
 rintro e w1 ⟨rfl, rfl⟩
 go_wp2_with fail
 refine (hb _).mono ?_
 rintro e w1 ⟨rfl, rfl⟩
 go_wp2_with fail
 refine (hc _).mono ?_
 rintro e w1 ⟨rfl, rfl⟩
 go_wp2_with fail
 go_ret2
 exact ⟨rfl, B1 _⟩
set_option maxRecDepth 100000 in
theorem rfault_no (o a b c i n k : Int) (w : World) (h : ¬ (0 ≤ o ∧ o < 34)) :
  Calls Tryz.prog 126 #[insV ⟨o, a, b, c, i⟩, .int .i64 n, .int .i64 k] w fun e w' => e = .returned (.tuple #[.int .i64 (wrong ⟨o, a, b, c, i⟩ n k).1, .int .i64 (wrong ⟨o, a, b, c, i⟩ n k).2]) ∧ Below w.heap.size w w' := by
 rw [wrong_op (x := ⟨o, a, b, c, i⟩) h]
 unfold insV
 by_cases h1 : o < 0
 ·go_enter Tryz.func126, Tryz.ntmps126
  go_wp2_with fail
  go_ret2
  exact ⟨rfl, (Below.refl w.heap.size w).alloc (Nat.le_refl _) _⟩
 ·have d1 : decide (o < 0) = false := by simpa using h1
  have d2 : 34 ≤ o := by omega
  clear h h1
  go_enter Tryz.func126, Tryz.ntmps126
  go_wp2_with fail
  go_ret2
  exact ⟨rfl, (Below.refl w.heap.size w).alloc (Nat.le_refl _) _⟩
theorem rfault_last (o a b c i n k : Int) (w : World) (h : 0 ≤ o ∧ o < 34) (ea : regE a (hA o) = 0) (eb : regE b (hB o) = 0) (ec : regE c (hC o) = 0) :
  Calls Tryz.prog 126 #[insV ⟨o, a, b, c, i⟩, .int .i64 n, .int .i64 k] w fun e w' => e = .returned (.tuple #[.int .i64 (wrong ⟨o, a, b, c, i⟩ n k).1, .int .i64 (wrong ⟨o, a, b, c, i⟩ n k).2]) ∧ Below w.heap.size w w' := by
 have hf := rfields_any o
 have ha := rregister_any a (hA o)
 have hb := rregister_any b (hB o)
 have hc := rregister_any c (hC o)
 rw [ea] at ha
 rw [eb] at hb
 rw [ec] at hc
 have key : wrong ⟨o, a, b, c, i⟩ n k = (immE o i n k, if immE o i n k = 0 then 0 else 4) := by
  by_cases ei : immE o i n k = 0
  ·rw [wrong_no (x := ⟨o, a, b, c, i⟩) h ea eb ec ei, if_pos ei, ei]
  ·rw [wrong_i (x := ⟨o, a, b, c, i⟩) h ea eb ec ei, if_neg ei]
 rw [key]
 generalize hA o = A at hf ha
 generalize hB o = B at hf hb
 generalize hC o = C at hf hc
 by_cases hi : hI o = true
 ·rw [hi] at hf
  by_cases hj : o = 22 ∨ o = 23
  ·by_cases h1 : i < 0
   ·have e : immE o i n k = 12 := by unfold immE; rw [if_pos hi, if_pos hj, if_neg (by omega)]
    rw [e]
    rcases hj with hj | hj
    ·exact rlast_Tj22lt o a b c i n k A B C w hf ha hb hc hj h1
    ·exact rlast_Tj23lt o a b c i n k A B C w hf ha hb hc hj h1
   ·by_cases h2 : n < i
    ·have e : immE o i n k = 12 := by unfold immE; rw [if_pos hi, if_pos hj, if_neg (by omega)]
     rw [e]
     rcases hj with hj | hj
     ·exact rlast_Tj22gt o a b c i n k A B C w hf ha hb hc hj h1 h2
     ·exact rlast_Tj23gt o a b c i n k A B C w hf ha hb hc hj h1 h2
    ·have e : immE o i n k = 0 := by unfold immE; rw [if_pos hi, if_pos hj, if_pos (by omega)]
     rw [e]
     rcases hj with hj | hj
     ·exact rlast_Tj22ok o a b c i n k A B C w hf ha hb hc hj h1 h2
     ·exact rlast_Tj23ok o a b c i n k A B C w hf ha hb hc hj h1 h2
  ·by_cases hl : o = 29 ∨ o = 30
   ·by_cases h1 : i < 0
    ·have e : immE o i n k = 13 := by unfold immE; rw [if_pos hi, if_neg hj, if_pos hl, if_neg (by omega)]
     rw [e]
     rcases hl with hl | hl
     ·exact rlast_Tl29lt o a b c i n k A B C w hf ha hb hc hl h1
     ·exact rlast_Tl30lt o a b c i n k A B C w hf ha hb hc hl h1
    ·by_cases h2 : k ≤ i
     ·have e : immE o i n k = 13 := by unfold immE; rw [if_pos hi, if_neg hj, if_pos hl, if_neg (by omega)]
      rw [e]
      rcases hl with hl | hl
      ·exact rlast_Tl29gt o a b c i n k A B C w hf ha hb hc hl h1 h2
      ·exact rlast_Tl30gt o a b c i n k A B C w hf ha hb hc hl h1 h2
     ·have e : immE o i n k = 0 := by unfold immE; rw [if_pos hi, if_neg hj, if_pos hl, if_pos (by omega)]
      rw [e]
      rcases hl with hl | hl
      ·exact rlast_Tl29ok o a b c i n k A B C w hf ha hb hc hl h1 h2
      ·exact rlast_Tl30ok o a b c i n k A B C w hf ha hb hc hl h1 h2
   ·have e : immE o i n k = 0 := by unfold immE; rw [if_pos hi, if_neg hj, if_neg hl]
    rw [e]
    exact rlast_T0 o a b c i n k A B C w hf ha hb hc h (by omega)
 ·have hi' : hI o = false := by simpa using hi
  rw [hi'] at hf
  have ho : ¬ (o = 22 ∨ o = 23 ∨ o = 29 ∨ o = 30) := fun h => hi (by rcases h with rfl | rfl | rfl | rfl <;> rfl)
  by_cases h1 : i = 0
  ·have e : immE o i n k = 0 := by unfold immE; rw [if_neg hi, if_pos h1]
   rw [e]
   exact rlast_F0 o a b c i n k A B C w hf ha hb hc h ho h1
  ·have e : immE o i n k = 11 := by unfold immE; rw [if_neg hi, if_neg h1]
   rw [e]
   exact rlast_F1 o a b c i n k A B C w hf ha hb hc h h1
theorem rfault_any (x : Ins) (n k : Int) (w : World) :
  Calls Tryz.prog 126 #[insV x, .int .i64 n, .int .i64 k] w fun e w' => e = .returned (.tuple #[.int .i64 (wrong x n k).1, .int .i64 (wrong x n k).2]) ∧ Below w.heap.size w w' := by
 obtain ⟨o, a, b, c, i⟩ := x
 by_cases h : 0 ≤ o ∧ o < 34
 ·by_cases ea : regE a (hA o) = 0
  ·by_cases eb : regE b (hB o) = 0
   ·by_cases ec : regE c (hC o) = 0
    ·exact rfault_last o a b c i n k w h ea eb ec
    ·exact rfault_2 o a b c i n k w h ea eb ec
   ·exact rfault_1 o a b c i n k w h ea eb
  ·exact rfault_0 o a b c i n k w h ea
 ·exact rfault_no o a b c i n k w h
set_option maxRecDepth 100000 in
theorem rcheck_any (x : Ins) (n k : Int) (w : World) :
  Calls Tryz.prog 96 #[insV x, .int .i64 n, .int .i64 k] w fun e w' => e = .returned (.int .i64 (wrong x n k).1) ∧ Below w.heap.size w w' := by
 have hf := rfault_any x n k
 generalize wrong x n k = R at hf ⊢
 unfold insV at *
 have B0 := Below.refl w.heap.size w
 have B1 : ∀ ob, Below w.heap.size w (w.alloc ob) := fun ob => B0.alloc (Nat.le_refl _) ob
 go_enter Tryz.func96, Tryz.ntmps96
 go_wp2_with fail
 refine (hf _).mono ?_
 rintro e w1 ⟨rfl, b1⟩
 replace b1 := (B1 _).trans (b1.mono (B1 _).size)
 go_wp2_with fail
 go_ret
 exact ⟨rfl, b1⟩
end Go.Proofs.YthhcecllejddeaaGreatDoor

namespace Go.Proofs.YthhcecllejddeaaGreatDoor
open Go.RowKit
theorem pow_step (j : Nat) : 2 ^ (8 * (j + 1)) = 2 ^ (8 * j) * 256 := by rw [Nat.mul_add, Nat.pow_add]
theorem sumB_lt (bs : List Nat) (p : Nat) (hb : ∀ i, bs.getD i 0 < 256) : ∀ m, sumB bs p m < 2 ^ (8 * m)
 | 0 => by simp [sumB]
 | m + 1 => by
  have ih := sumB_lt bs p hb m
  have h1 : bs.getD (p + m) 0 * 2 ^ (8 * m) ≤ 255 * 2 ^ (8 * m) := Nat.mul_le_mul_right _ (by have := hb (p + m); omega)
  rw [sumB, pow_step]
  omega
def Fit (x : Ins) : Prop := -9223372036854775808 ≤ x.imm ∧ x.imm ≤ 9223372036854775807
theorem decE_place (bs : List Nat) (n : Nat) : ∀ (m s : Nat), 0 ≤ (decE bs n s m).2 ∧ ((decE bs n s m).1 ≠ 0 → (decE bs n s m).2 ≤ 12 * (s + m : Nat)) ∧ ((decE bs n s m).1 = 0 → (decE bs n s m).2 = 0)
 | 0, s => by simp [decE]
 | m + 1, s => by
  have hx := wrong_at_lt (getI bs (12 * s)) n 8
  have ih := decE_place bs n m (s + 1)
  unfold decE
  split
  ·next h => exact ⟨by simp only; omega, fun _ => by simp only; omega, fun h' => absurd h' h⟩
  ·refine ⟨ih.1, fun h => ?_, ih.2.2⟩
   have := ih.2.1 h
   omega
theorem decR_place (bs : List Nat) : 0 ≤ (decR bs).2 ∧ (decR bs).2 ≤ bs.length ∧ ((decR bs).1 = 0 → (decR bs).2 = 0) := by
 unfold decR
 split
 ·exact ⟨by simp, by simp only; omega, fun h => by simp at h⟩
 ·split
  ·exact ⟨by simp, by simp, fun h => by simp at h⟩
  ·have h := decE_place bs (bs.length / 12) (bs.length / 12) 0
   refine ⟨h.1, ?_, h.2.2⟩
   by_cases h0 : (decE bs (bs.length / 12) 0 (bs.length / 12)).1 = 0
   ·rw [h.2.2 h0]; omega
   ·have := h.2.1 h0; omega
theorem wrong_more {x : Ins} {n k n' k' : Int} (h : (wrong x n k).1 = 0) (hn : n ≤ n') (hk : k ≤ k') : (wrong x n' k').1 = 0 := by
 obtain ⟨h1, h2, h3, h4, h5, h6⟩ := wrong_ok h
 have h7 : immE x.op x.imm n' k' = 0 := by
  unfold immE at *
  split
  ·next hi =>
   rw [if_pos hi] at h6
   split
   ·next ho =>
    rw [if_pos ho] at h6
    split at h6
    ·rw [if_pos (by omega)]
    ·simp at h6
   ·next ho =>
    rw [if_neg ho] at h6
    split
    ·next hq =>
     rw [if_pos hq] at h6
     split at h6
     ·rw [if_pos (by omega)]
     ·simp at h6
    ·rfl
  ·next hi =>
   rw [if_neg hi] at h6
   exact h6
 unfold wrong
 rw [if_neg (by omega), if_neg (by rw [h3]; simp), if_neg (by rw [h4]; simp), if_neg (by rw [h5]; simp), if_neg (by rw [h7]; simp)]
end Go.Proofs.YthhcecllejddeaaGreatDoor

namespace Go.Proofs.YthhcecllejddeaaGreatDoor
open Go.RowKit
theorem below_drewN {B : Nat} {a w : World} (h : Below B a w) (n : Nat) : Below B a (w.drewN n) := ⟨h.os, h.tape, h.output, h.size, h.block⟩
structure InsAt (w : World) (b o : Nat) (x : Ins) : Prop where
 c0 : w.cell? ⟨b, o, none⟩ = some (.int .i64 x.op)
 c1 : w.cell? ⟨b, o + 1, none⟩ = some (.int .i64 x.a)
 c2 : w.cell? ⟨b, o + 2, none⟩ = some (.int .i64 x.b)
 c3 : w.cell? ⟨b, o + 3, none⟩ = some (.int .i64 x.c)
 c4 : w.cell? ⟨b, o + 4, none⟩ = some (.int .i64 x.imm)
theorem InsAt.kept {w w' : World} {b o : Nat} {x : Ins} (h : InsAt w b o x) (hb : Below w.heap.size w w') : InsAt w' b o x where
 c0 := (hb.cell (World.block_lt_of_cell? w _ h.c0)).trans h.c0
 c1 := (hb.cell (World.block_lt_of_cell? w _ h.c1)).trans h.c1
 c2 := (hb.cell (World.block_lt_of_cell? w _ h.c2)).trans h.c2
 c3 := (hb.cell (World.block_lt_of_cell? w _ h.c3)).trans h.c3
 c4 := (hb.cell (World.block_lt_of_cell? w _ h.c4)).trans h.c4
def Prg (w : World) (a : Option Addr) (l : List Ins) : Prop := ∀ i, i < l.length → ∃ b off, a = some ⟨b, off, none⟩ ∧ InsAt w b (off + i * 5) (l.getD i default)
theorem Prg.kept {w w' : World} {a : Option Addr} {l : List Ins} (h : Prg w a l) (hb : Below w.heap.size w w') : Prg w' a l := fun i hi => by
 obtain ⟨b, off, e, hc⟩ := h i hi
 exact ⟨b, off, e, hc.kept hb⟩
set_option maxRecDepth 100000 in
set_option maxHeartbeats 2000000 in
theorem may_any (a : Option Addr) (cap : Nat) (l : List Ins) (k : Int) (w : World) (hP : Prg w a l) (hF : Fld w) :
  Calls Tryz.prog 101 #[.slice a l.length cap, .int .i64 k] w fun e w' => e = .returned (.tuple #[.int .i64 (mayL l k).1, .int .i64 (mayL l k).2]) ∧ Below w.heap.size w w' := by
 by_cases h1 : k < 0
 ·have e : mayL l k = (1, 0) := by unfold mayL; rw [if_pos (by omega)]
  rw [e]
  clear e hP hF
  go_enter Tryz.func101, Tryz.ntmps101
  go_wp2
  go_ret2
  exact ⟨rfl, Below.refl _ _⟩
 ·have d1 : decide (k < 0) = false := by simpa using h1
  by_cases h2 : 8 < k
  ·have e : mayL l k = (1, 0) := by unfold mayL; rw [if_pos (by omega)]
   rw [e]
   clear e hP hF h1
   go_enter Tryz.func101, Tryz.ntmps101
   go_wp2
   go_ret2
   exact ⟨rfl, Below.refl _ _⟩
  ·have d2 : decide (8 < k) = false := by simpa using h2
   by_cases h3 : 256 < l.length
   ·have e : mayL l k = (3, 256) := by unfold mayL; rw [if_neg (by omega), if_pos h3]
    rw [e]
    have d3 : (256 : Int) < (l.length : Int) := by omega
    clear e hP hF h1 h2
    go_enter Tryz.func101, Tryz.ntmps101
    go_wp2
    go_ret2
    exact ⟨rfl, Below.refl _ _⟩
   ·have e : mayL l k = firstE l.length k l 0 := by unfold mayL; rw [if_neg (by omega), if_neg h3]
    rw [e]
    have hlen : l.length ≤ 256 := by omega
    have d3 : decide ((256 : Int) < (l.length : Int)) = false := by simp; omega
    obtain ⟨R, hR⟩ : ∃ R, Hid (firstE l.length k l 0 = R) := ⟨_, rfl⟩
    rw [hR.out]
    have HP : Hid (Prg w a l) := hP
    have HF : Hid (Fld w) := hF
    clear e hP hF h1 h2 h3
    go_enter Tryz.func101, Tryz.ntmps101
    go_wp2
    go_loopw [6, 7, 8, 20] (fun _ _ _ v20 wr => ∃ i : Nat, v20 = .int .i64 i ∧ i ≤ l.length ∧ Hid (∀ j, j < i → (wrong (l.getD j default) l.length k).1 = 0) ∧ Below w.heap.size w wr) (fun _ _ _ v20 _ => l.length - (intOf v20).toNat)
    case atStart => exact ⟨0, rfl, Nat.zero_le _, hd (fun j hj => absurd hj (Nat.not_lt_zero j)), Below.refl _ _⟩
    case round =>
     obtain ⟨i, rfl, hi, hall, hbr⟩ := hrel
     by_cases hlt : i < l.length
     ·have hlt' : (i : Int) < (l.length : Int) := by omega
      obtain ⟨b, off, rfl, hx⟩ := HP.out i hlt
      have hx := hx.kept hbr
      have hck : ∀ W, Below w.heap.size w W → _ := fun W hb => check_any (l.getD i default) l.length k W (HF.out.kept hb)
      obtain ⟨k0, k1, k2, k3, k4⟩ := hx
      by_cases hw : (wrong (l.getD i default) l.length k).1 = 0
      ·have hall' : Hid (∀ j, j < i + 1 → (wrong (l.getD j default) l.length k).1 = 0) := hd (fun j hj => by
        by_cases e : j = i
        ·rw [e]; exact hw
        ·exact hall.out j (by omega))
       rw [hw] at hck
       clear hw hall HP
       generalize l.getD i default = x at *
       unfold insV at hck
       go_wp2_with fail
       refine (hck _ ?_).mono ?_
       ·exact hbr.alloc hbr.size _
       rintro e w1 ⟨rfl, b1⟩
       have hba := hbr.alloc hbr.size (.cells #[.int .i64 x.op, .int .i64 x.a, .int .i64 x.b, .int .i64 x.c, .int .i64 x.imm] 54)
       replace b1 := hba.trans (b1.mono hba.size)
       go_wp2_with fail
       go_roundw
       case rel => exact ⟨i + 1, by go_num, by omega, hall', b1⟩
       case measure => simp [intOf]; omega
      ·have hfin : Hid (R = ((wrong (l.getD i default) l.length k).1, (i : Int))) := hd (by
        rw [← hR.out, firstE_at _ _ l 0 i hlt hall.out hw, Int.zero_add])
       generalize (wrong (l.getD i default) l.length k).1 = E at *
       have dE : (E == 0) = false := by simpa using hw
       clear hw hall HP hR
       generalize l.getD i default = x at *
       unfold insV at hck
       go_wp2_with fail
       refine (hck _ ?_).mono ?_
       ·exact hbr.alloc hbr.size _
       rintro e w1 ⟨rfl, b1⟩
       have hba := hbr.alloc hbr.size (.cells #[.int .i64 x.op, .int .i64 x.a, .int .i64 x.b, .int .i64 x.c, .int .i64 x.imm] 54)
       replace b1 := hba.trans (b1.mono hba.size)
       go_wp2_with fail
       go_ret2
       exact ⟨by rw [hfin.out]; rfl, b1⟩
     ·have hltd : decide ((i : Int) < (l.length : Int)) = false := by simp; omega
      have hge : (l.length : Int) ≤ (i : Int) := by omega
      have hfin : Hid (R = (0, 0)) := hd (by rw [← hR.out, firstE_none _ _ l 0 (fun j hj => hall.out j (by omega))])
      clear hall hR HP
      go_wp2
      go_ret2
      exact ⟨by rw [hfin.out]; rfl, hbr⟩
end Go.Proofs.YthhcecllejddeaaGreatDoor

namespace Go.Proofs.YthhcecllejddeaaGreatDoor
open Go.RowKit
set_option maxRecDepth 100000 in
set_option maxHeartbeats 2000000 in
theorem rmay_any (a : Option Addr) (cap : Nat) (l : List Ins) (k : Int) (w : World) (hP : Prg w a l) :
  Calls Tryz.prog 58 #[.slice a l.length cap, .int .i64 k] w fun e w' => e = .returned (.tuple #[.int .i64 (mayL l k).1, .int .i64 (mayL l k).2]) ∧ Below w.heap.size w w' := by
 by_cases h1 : k < 0
 ·have e : mayL l k = (1, 0) := by unfold mayL; rw [if_pos (by omega)]
  rw [e]
  clear e hP
  go_enter Tryz.func58, Tryz.ntmps58
  go_wp2
  go_ret2
  exact ⟨rfl, Below.refl _ _⟩
 ·have d1 : decide (k < 0) = false := by simpa using h1
  by_cases h2 : 8 < k
  ·have e : mayL l k = (1, 0) := by unfold mayL; rw [if_pos (by omega)]
   rw [e]
   clear e hP h1
   go_enter Tryz.func58, Tryz.ntmps58
   go_wp2
   go_ret2
   exact ⟨rfl, Below.refl _ _⟩
  ·have d2 : decide (8 < k) = false := by simpa using h2
   by_cases h3 : 256 < l.length
   ·have e : mayL l k = (3, 256) := by unfold mayL; rw [if_neg (by omega), if_pos h3]
    rw [e]
    have d3 : (256 : Int) < (l.length : Int) := by omega
    clear e hP h1 h2
    go_enter Tryz.func58, Tryz.ntmps58
    go_wp2
    go_ret2
    exact ⟨rfl, Below.refl _ _⟩
   ·have e : mayL l k = firstE l.length k l 0 := by unfold mayL; rw [if_neg (by omega), if_neg h3]
    rw [e]
    have hlen : l.length ≤ 256 := by omega
    have d3 : decide ((256 : Int) < (l.length : Int)) = false := by simp; omega
    obtain ⟨R, hR⟩ : ∃ R, Hid (firstE l.length k l 0 = R) := ⟨_, rfl⟩
    rw [hR.out]
    have HP : Hid (Prg w a l) := hP
    clear e hP h1 h2 h3
    go_enter Tryz.func58, Tryz.ntmps58
    go_wp2
    go_loopw [6, 7] (fun v6 _ wr => ∃ i : Nat, v6 = .int .i64 i ∧ i ≤ l.length ∧ Hid (∀ j, j < i → (wrong (l.getD j default) l.length k).1 = 0) ∧ Below w.heap.size w wr) (fun v6 _ _ => l.length - (intOf v6).toNat)
    case atStart => exact ⟨0, rfl, Nat.zero_le _, hd (fun j hj => absurd hj (Nat.not_lt_zero j)), Below.refl _ _⟩
    case round =>
     obtain ⟨i, rfl, hi, hall, hbr⟩ := hrel
     by_cases hlt : i < l.length
     ·have hlt' : (i : Int) < (l.length : Int) := by omega
      obtain ⟨b, off, rfl, hx⟩ := HP.out i hlt
      have hx := hx.kept hbr
      have hck := rcheck_any (l.getD i default) l.length k
      obtain ⟨k0, k1, k2, k3, k4⟩ := hx
      by_cases hw : (wrong (l.getD i default) l.length k).1 = 0
      ·have hall' : Hid (∀ j, j < i + 1 → (wrong (l.getD j default) l.length k).1 = 0) := hd (fun j hj => by
        by_cases e : j = i
        ·rw [e]; exact hw
        ·exact hall.out j (by omega))
       rw [hw] at hck
       clear hw hall HP
       generalize l.getD i default = x at *
       unfold insV at hck
       go_wp2_with fail
       refine (hck _).mono ?_
       rintro e w1 ⟨rfl, b1⟩
       replace b1 := hbr.trans (b1.mono hbr.size)
       go_wp2_with fail
       go_roundw
       case rel => exact ⟨i + 1, by go_num, by omega, hall', b1⟩
       case measure => simp [intOf]; omega
      ·have hfin : Hid (R = ((wrong (l.getD i default) l.length k).1, (i : Int))) := hd (by
        rw [← hR.out, firstE_at _ _ l 0 i hlt hall.out hw, Int.zero_add])
       generalize (wrong (l.getD i default) l.length k).1 = E at *
       have dE : (E == 0) = false := by simpa using hw
       clear hw hall HP hR
       generalize l.getD i default = x at *
       unfold insV at hck
       go_wp2_with fail
       refine (hck _).mono ?_
       rintro e w1 ⟨rfl, b1⟩
       replace b1 := hbr.trans (b1.mono hbr.size)
       go_wp2_with fail
       go_ret2
       exact ⟨by rw [hfin.out]; rfl, b1⟩
     ·have hltd : decide ((i : Int) < (l.length : Int)) = false := by simp; omega
      have hge : (l.length : Int) ≤ (i : Int) := by omega
      have hfin : Hid (R = (0, 0)) := hd (by rw [← hR.out, firstE_none _ _ l 0 (fun j hj => hall.out j (by omega))])
      clear hall hR HP
      go_wp2
      go_ret2
      exact ⟨by rw [hfin.out]; rfl, hbr⟩
end Go.Proofs.YthhcecllejddeaaGreatDoor

namespace Go.Proofs.YthhcecllejddeaaGreatDoor
open Go.RowKit
theorem info_u8 : (Tryz.prog.info? 5).map (fun i => (i.zero, i.size, i.bytes)) = some (some (.int .u8 0), 1, 1) := by kernel_rfl
theorem info_parts {t : TypeId} {z : Value} {s b : Nat} (h : (Tryz.prog.info? t).map (fun i => (i.zero, i.size, i.bytes)) = some (some z, s, b)) : ∃ i, Tryz.prog.info? t = some i ∧ i.zero = some z ∧ i.size = s ∧ i.bytes = b := by
 cases hh : Tryz.prog.info? t with
 | none => rw [hh] at h; cases h
 | some i => rw [hh] at h; simp at h; exact ⟨i, rfl, h.1, h.2.1, h.2.2⟩
def bCells (l : List Nat) : List Value := l.map fun b : Nat => Value.int .u8 (b : Int)
theorem bCells_len (l : List Nat) : (bCells l).length = l.length := by simp [bCells]
theorem bCells_app (l m : List Nat) : bCells l ++ bCells m = bCells (l ++ m) := by simp [bCells]
theorem addr_add (b off j : Nat) : (⟨b, off, none⟩ : Addr).add j = ⟨b, off + j, none⟩ := by
 unfold Addr.add
 split
 ·rename_i h; subst h; rfl
 ·rfl
theorem mod_b8 (z : Int) : z % 256 = (b8 z : Int) := by unfold b8; omega
theorem mod_u64 (z : Int) : z % 18446744073709551616 = (u64 z : Int) := by unfold u64; omega
theorem wrap_u64 (z : Int) : IntKind.u64.wrap z = z % 18446744073709551616 := by
 unfold IntKind.wrap
 rw [show IntKind.u64.signed = false from rfl]
 rfl
theorem byte_val {i : Int} {U y j : Nat} (e4 : i % 18446744073709551616 = (U : Int)) (h : y = U / 2 ^ (8 * j) % 256) : IntKind.u64.wrap i / 2 ^ (8 * j) % 256 = (y : Int) := by
 rw [wrap_u64, e4, h]
 clear e4 h
 generalize 8 * j = q
 have h1 : ((2 ^ q : Nat) : Int) = (2 : Int) ^ q := by simp
 rw [← h1]
 rfl
theorem alloc_keeps {w : World} {a : Addr} {v : Value} (o : Obj) (h : w.cell? a = some v) : (w.alloc o).cell? a = some v := by
 rw [World.cell?_alloc_lt _ _ _ (World.block_lt_of_cell? w _ h)]; exact h
end Go.Proofs.YthhcecllejddeaaGreatDoor
