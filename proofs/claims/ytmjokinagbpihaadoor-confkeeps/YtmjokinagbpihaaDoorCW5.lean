/- What is wrong with an instruction, by the document's answer. -/
import Derived.Test.YtmjokinagbpihaaDoorGCa
namespace Go.Proofs.YtmjokinagbpihaaDoor
open Go.RowKit

set_option maxRecDepth 100000 in
set_option maxHeartbeats 1000000 in
theorem rfault_0 (o a b c i n k : Int) (w : World) (h : 0 ≤ o ∧ o < 34) (ea : regE a (hA o) ≠ 0) :
    Calls Tryd.prog 66 #[insV ⟨o, a, b, c, i⟩, .int .i64 n, .int .i64 k] w fun e w' => e = .returned (.tuple #[.int .i64 (wrong ⟨o, a, b, c, i⟩ n k).1, .int .i64 (wrong ⟨o, a, b, c, i⟩ n k).2]) ∧ Below w.heap.size w w' := by
  rw [wrong_a (x := ⟨o, a, b, c, i⟩) h ea]
  have B1 : ∀ ob, Below w.heap.size w (w.alloc ob) := fun ob => (Below.refl w.heap.size w).alloc (Nat.le_refl _) ob
  have d1 : decide (o < 0) = false := by simp; omega
  have d2 : decide (34 ≤ o) = false := by simp; omega
  have hf := rfields_any o
  have ha := rregister_any a (hA o)
  simp only
  generalize regE a (hA o) = E at ea ha ⊢
  have dq : (E == 0) = false := by simpa using ea
  unfold insV
  clear h ea
  generalize hA o = A at hf ha
  generalize hB o = B at hf
  generalize hC o = C at hf
  generalize hI o = I at hf
  go_enter Tryd.func66, Tryd.ntmps66
  go_wp2_with fail
  refine (hf _).mono ?_
  rintro e w1 ⟨rfl, rfl⟩
  go_wp2_with fail
  refine (ha _).mono ?_
  rintro e w1 ⟨rfl, rfl⟩
  go_wp2_with fail
  go_ret2
  exact ⟨rfl, B1 _⟩

set_option maxRecDepth 100000 in
set_option maxHeartbeats 1000000 in
theorem rfault_1 (o a b c i n k : Int) (w : World) (h : 0 ≤ o ∧ o < 34) (ea : regE a (hA o) = 0) (eb : regE b (hB o) ≠ 0) :
    Calls Tryd.prog 66 #[insV ⟨o, a, b, c, i⟩, .int .i64 n, .int .i64 k] w fun e w' => e = .returned (.tuple #[.int .i64 (wrong ⟨o, a, b, c, i⟩ n k).1, .int .i64 (wrong ⟨o, a, b, c, i⟩ n k).2]) ∧ Below w.heap.size w w' := by
  rw [wrong_b (x := ⟨o, a, b, c, i⟩) h ea eb]
  have B1 : ∀ ob, Below w.heap.size w (w.alloc ob) := fun ob => (Below.refl w.heap.size w).alloc (Nat.le_refl _) ob
  have d1 : decide (o < 0) = false := by simp; omega
  have d2 : decide (34 ≤ o) = false := by simp; omega
  have hf := rfields_any o
  have ha := rregister_any a (hA o)
  rw [ea] at ha
  have hb := rregister_any b (hB o)
  simp only
  generalize regE b (hB o) = E at eb hb ⊢
  have dq : (E == 0) = false := by simpa using eb
  unfold insV
  clear h ea eb
  generalize hA o = A at hf ha
  generalize hB o = B at hf hb
  generalize hC o = C at hf
  generalize hI o = I at hf
  go_enter Tryd.func66, Tryd.ntmps66
  go_wp2_with fail
  refine (hf _).mono ?_
  rintro e w1 ⟨rfl, rfl⟩
  go_wp2_with fail
  refine (ha _).mono ?_
  rintro e w1 ⟨rfl, rfl⟩
  go_wp2_with fail
  refine (hb _).mono ?_
  rintro e w1 ⟨rfl, rfl⟩
  go_wp2_with fail
  go_ret2
  exact ⟨rfl, B1 _⟩

set_option maxRecDepth 100000 in
set_option maxHeartbeats 1000000 in
theorem rfault_2 (o a b c i n k : Int) (w : World) (h : 0 ≤ o ∧ o < 34) (ea : regE a (hA o) = 0) (eb : regE b (hB o) = 0) (ec : regE c (hC o) ≠ 0) :
    Calls Tryd.prog 66 #[insV ⟨o, a, b, c, i⟩, .int .i64 n, .int .i64 k] w fun e w' => e = .returned (.tuple #[.int .i64 (wrong ⟨o, a, b, c, i⟩ n k).1, .int .i64 (wrong ⟨o, a, b, c, i⟩ n k).2]) ∧ Below w.heap.size w w' := by
  rw [wrong_c (x := ⟨o, a, b, c, i⟩) h ea eb ec]
  have B1 : ∀ ob, Below w.heap.size w (w.alloc ob) := fun ob => (Below.refl w.heap.size w).alloc (Nat.le_refl _) ob
  have d1 : decide (o < 0) = false := by simp; omega
  have d2 : decide (34 ≤ o) = false := by simp; omega
  have hf := rfields_any o
  have ha := rregister_any a (hA o)
  rw [ea] at ha
  have hb := rregister_any b (hB o)
  rw [eb] at hb
  have hc := rregister_any c (hC o)
  simp only
  generalize regE c (hC o) = E at ec hc ⊢
  have dq : (E == 0) = false := by simpa using ec
  unfold insV
  clear h ea eb ec
  generalize hA o = A at hf ha
  generalize hB o = B at hf hb
  generalize hC o = C at hf hc
  generalize hI o = I at hf
  go_enter Tryd.func66, Tryd.ntmps66
  go_wp2_with fail
  refine (hf _).mono ?_
  rintro e w1 ⟨rfl, rfl⟩
  go_wp2_with fail
  refine (ha _).mono ?_
  rintro e w1 ⟨rfl, rfl⟩
  go_wp2_with fail
  refine (hb _).mono ?_
  rintro e w1 ⟨rfl, rfl⟩
  go_wp2_with fail
  refine (hc _).mono ?_
  rintro e w1 ⟨rfl, rfl⟩
  go_wp2_with fail
  go_ret2
  exact ⟨rfl, B1 _⟩

set_option maxRecDepth 100000 in
set_option maxHeartbeats 1000000 in
theorem rlast_F0 (o a b c i n k : Int) (A B C : Bool) (w : World) (hf : ∀ w : World, Calls Tryd.prog 73 #[.int .i64 o] w fun e w' => e = .returned (.tuple #[.bool A, .bool B, .bool C, .bool false]) ∧ w' = w)
    (ha : ∀ w : World, Calls Tryd.prog 74 #[.int .i64 a, .bool A] w fun e w' => e = .returned (.int .i64 0) ∧ w' = w)
    (hb : ∀ w : World, Calls Tryd.prog 74 #[.int .i64 b, .bool B] w fun e w' => e = .returned (.int .i64 0) ∧ w' = w)
    (hc : ∀ w : World, Calls Tryd.prog 74 #[.int .i64 c, .bool C] w fun e w' => e = .returned (.int .i64 0) ∧ w' = w) (h : 0 ≤ o ∧ o < 34) (ho : ¬ (o = 22 ∨ o = 23 ∨ o = 29 ∨ o = 30)) (hi : i = 0) :
    Calls Tryd.prog 66 #[insV ⟨o, a, b, c, i⟩, .int .i64 n, .int .i64 k] w fun e w' => e = .returned (.tuple #[.int .i64 0, .int .i64 0]) ∧ Below w.heap.size w w' := by
  have B1 : ∀ ob, Below w.heap.size w (w.alloc ob) := fun ob => (Below.refl w.heap.size w).alloc (Nat.le_refl _) ob
  have d1 : decide (o < 0) = false := by simp; omega
  have d2 : decide (34 ≤ o) = false := by simp; omega
  have t1 : (o == 22) = false := by simp; omega
  have t2 : (o == 23) = false := by simp; omega
  have t3 : (o == 29) = false := by simp; omega
  have t4 : (o == 30) = false := by simp; omega
  subst hi
  clear h ho
  unfold insV
  go_enter Tryd.func66, Tryd.ntmps66
  go_wp2_with fail
  refine (hf _).mono ?_
  rintro e w1 ⟨rfl, rfl⟩
  go_wp2_with fail
  refine (ha _).mono ?_
  rintro e w1 ⟨rfl, rfl⟩
  go_wp2_with fail
  refine (hb _).mono ?_
  rintro e w1 ⟨rfl, rfl⟩
  go_wp2_with fail
  refine (hc _).mono ?_
  rintro e w1 ⟨rfl, rfl⟩
  go_wp2_with fail
  go_ret2
  exact ⟨rfl, B1 _⟩

set_option maxRecDepth 100000 in
set_option maxHeartbeats 1000000 in
theorem rlast_F1 (o a b c i n k : Int) (A B C : Bool) (w : World) (hf : ∀ w : World, Calls Tryd.prog 73 #[.int .i64 o] w fun e w' => e = .returned (.tuple #[.bool A, .bool B, .bool C, .bool false]) ∧ w' = w)
    (ha : ∀ w : World, Calls Tryd.prog 74 #[.int .i64 a, .bool A] w fun e w' => e = .returned (.int .i64 0) ∧ w' = w)
    (hb : ∀ w : World, Calls Tryd.prog 74 #[.int .i64 b, .bool B] w fun e w' => e = .returned (.int .i64 0) ∧ w' = w)
    (hc : ∀ w : World, Calls Tryd.prog 74 #[.int .i64 c, .bool C] w fun e w' => e = .returned (.int .i64 0) ∧ w' = w) (h : 0 ≤ o ∧ o < 34) (hi : i ≠ 0) :
    Calls Tryd.prog 66 #[insV ⟨o, a, b, c, i⟩, .int .i64 n, .int .i64 k] w fun e w' => e = .returned (.tuple #[.int .i64 11, .int .i64 4]) ∧ Below w.heap.size w w' := by
  have B1 : ∀ ob, Below w.heap.size w (w.alloc ob) := fun ob => (Below.refl w.heap.size w).alloc (Nat.le_refl _) ob
  have d1 : decide (o < 0) = false := by simp; omega
  have d2 : decide (34 ≤ o) = false := by simp; omega
  have d3 : (i == 0) = false := by simpa using hi
  clear h hi
  unfold insV
  go_enter Tryd.func66, Tryd.ntmps66
  go_wp2_with fail
  refine (hf _).mono ?_
  rintro e w1 ⟨rfl, rfl⟩
  go_wp2_with fail
  refine (ha _).mono ?_
  rintro e w1 ⟨rfl, rfl⟩
  go_wp2_with fail
  refine (hb _).mono ?_
  rintro e w1 ⟨rfl, rfl⟩
  go_wp2_with fail
  refine (hc _).mono ?_
  rintro e w1 ⟨rfl, rfl⟩
  go_wp2_with fail
  go_ret2
  exact ⟨rfl, B1 _⟩

set_option maxRecDepth 100000 in
set_option maxHeartbeats 1000000 in
theorem rlast_T0 (o a b c i n k : Int) (A B C : Bool) (w : World) (hf : ∀ w : World, Calls Tryd.prog 73 #[.int .i64 o] w fun e w' => e = .returned (.tuple #[.bool A, .bool B, .bool C, .bool true]) ∧ w' = w)
    (ha : ∀ w : World, Calls Tryd.prog 74 #[.int .i64 a, .bool A] w fun e w' => e = .returned (.int .i64 0) ∧ w' = w)
    (hb : ∀ w : World, Calls Tryd.prog 74 #[.int .i64 b, .bool B] w fun e w' => e = .returned (.int .i64 0) ∧ w' = w)
    (hc : ∀ w : World, Calls Tryd.prog 74 #[.int .i64 c, .bool C] w fun e w' => e = .returned (.int .i64 0) ∧ w' = w) (h : 0 ≤ o ∧ o < 34) (ho : ¬ (o = 22 ∨ o = 23 ∨ o = 29 ∨ o = 30)) :
    Calls Tryd.prog 66 #[insV ⟨o, a, b, c, i⟩, .int .i64 n, .int .i64 k] w fun e w' => e = .returned (.tuple #[.int .i64 0, .int .i64 0]) ∧ Below w.heap.size w w' := by
  have B1 : ∀ ob, Below w.heap.size w (w.alloc ob) := fun ob => (Below.refl w.heap.size w).alloc (Nat.le_refl _) ob
  have d1 : decide (o < 0) = false := by simp; omega
  have d2 : decide (34 ≤ o) = false := by simp; omega
  have t1 : (o == 22) = false := by simp; omega
  have t2 : (o == 23) = false := by simp; omega
  have t3 : (o == 29) = false := by simp; omega
  have t4 : (o == 30) = false := by simp; omega
  clear h ho
  unfold insV
  go_enter Tryd.func66, Tryd.ntmps66
  go_wp2_with fail
  refine (hf _).mono ?_
  rintro e w1 ⟨rfl, rfl⟩
  go_wp2_with fail
  refine (ha _).mono ?_
  rintro e w1 ⟨rfl, rfl⟩
  go_wp2_with fail
  refine (hb _).mono ?_
  rintro e w1 ⟨rfl, rfl⟩
  go_wp2_with fail
  refine (hc _).mono ?_
  rintro e w1 ⟨rfl, rfl⟩
  go_wp2_with fail
  go_ret2
  exact ⟨rfl, B1 _⟩

set_option maxRecDepth 100000 in
set_option maxHeartbeats 1000000 in
theorem rlast_Tj22lt (o a b c i n k : Int) (A B C : Bool) (w : World) (hf : ∀ w : World, Calls Tryd.prog 73 #[.int .i64 o] w fun e w' => e = .returned (.tuple #[.bool A, .bool B, .bool C, .bool true]) ∧ w' = w)
    (ha : ∀ w : World, Calls Tryd.prog 74 #[.int .i64 a, .bool A] w fun e w' => e = .returned (.int .i64 0) ∧ w' = w)
    (hb : ∀ w : World, Calls Tryd.prog 74 #[.int .i64 b, .bool B] w fun e w' => e = .returned (.int .i64 0) ∧ w' = w)
    (hc : ∀ w : World, Calls Tryd.prog 74 #[.int .i64 c, .bool C] w fun e w' => e = .returned (.int .i64 0) ∧ w' = w) (ho : o = 22) (hi : i < 0) :
    Calls Tryd.prog 66 #[insV ⟨o, a, b, c, i⟩, .int .i64 n, .int .i64 k] w fun e w' => e = .returned (.tuple #[.int .i64 12, .int .i64 4]) ∧ Below w.heap.size w w' := by
  have B1 : ∀ ob, Below w.heap.size w (w.alloc ob) := fun ob => (Below.refl w.heap.size w).alloc (Nat.le_refl _) ob
  subst ho
  unfold insV
  go_enter Tryd.func66, Tryd.ntmps66
  go_wp2_with fail
  refine (hf _).mono ?_
  rintro e w1 ⟨rfl, rfl⟩
  go_wp2_with fail
  refine (ha _).mono ?_
  rintro e w1 ⟨rfl, rfl⟩
  go_wp2_with fail
  refine (hb _).mono ?_
  rintro e w1 ⟨rfl, rfl⟩
  go_wp2_with fail
  refine (hc _).mono ?_
  rintro e w1 ⟨rfl, rfl⟩
  go_wp2_with fail
  go_ret2
  exact ⟨rfl, B1 _⟩

set_option maxRecDepth 100000 in
set_option maxHeartbeats 1000000 in
theorem rlast_Tj22gt (o a b c i n k : Int) (A B C : Bool) (w : World) (hf : ∀ w : World, Calls Tryd.prog 73 #[.int .i64 o] w fun e w' => e = .returned (.tuple #[.bool A, .bool B, .bool C, .bool true]) ∧ w' = w)
    (ha : ∀ w : World, Calls Tryd.prog 74 #[.int .i64 a, .bool A] w fun e w' => e = .returned (.int .i64 0) ∧ w' = w)
    (hb : ∀ w : World, Calls Tryd.prog 74 #[.int .i64 b, .bool B] w fun e w' => e = .returned (.int .i64 0) ∧ w' = w)
    (hc : ∀ w : World, Calls Tryd.prog 74 #[.int .i64 c, .bool C] w fun e w' => e = .returned (.int .i64 0) ∧ w' = w) (ho : o = 22) (hi : ¬ i < 0) (hn : n < i) :
    Calls Tryd.prog 66 #[insV ⟨o, a, b, c, i⟩, .int .i64 n, .int .i64 k] w fun e w' => e = .returned (.tuple #[.int .i64 12, .int .i64 4]) ∧ Below w.heap.size w w' := by
  have B1 : ∀ ob, Below w.heap.size w (w.alloc ob) := fun ob => (Below.refl w.heap.size w).alloc (Nat.le_refl _) ob
  subst ho
  have d1 : decide (i < 0) = false := by simpa using hi
  clear hi
  unfold insV
  go_enter Tryd.func66, Tryd.ntmps66
  go_wp2_with fail
  refine (hf _).mono ?_
  rintro e w1 ⟨rfl, rfl⟩
  go_wp2_with fail
  refine (ha _).mono ?_
  rintro e w1 ⟨rfl, rfl⟩
  go_wp2_with fail
  refine (hb _).mono ?_
  rintro e w1 ⟨rfl, rfl⟩
  go_wp2_with fail
  refine (hc _).mono ?_
  rintro e w1 ⟨rfl, rfl⟩
  go_wp2_with fail
  go_ret2
  exact ⟨rfl, B1 _⟩

set_option maxRecDepth 100000 in
set_option maxHeartbeats 1000000 in
theorem rlast_Tj22ok (o a b c i n k : Int) (A B C : Bool) (w : World) (hf : ∀ w : World, Calls Tryd.prog 73 #[.int .i64 o] w fun e w' => e = .returned (.tuple #[.bool A, .bool B, .bool C, .bool true]) ∧ w' = w)
    (ha : ∀ w : World, Calls Tryd.prog 74 #[.int .i64 a, .bool A] w fun e w' => e = .returned (.int .i64 0) ∧ w' = w)
    (hb : ∀ w : World, Calls Tryd.prog 74 #[.int .i64 b, .bool B] w fun e w' => e = .returned (.int .i64 0) ∧ w' = w)
    (hc : ∀ w : World, Calls Tryd.prog 74 #[.int .i64 c, .bool C] w fun e w' => e = .returned (.int .i64 0) ∧ w' = w) (ho : o = 22) (hi : ¬ i < 0) (hn : ¬ n < i) :
    Calls Tryd.prog 66 #[insV ⟨o, a, b, c, i⟩, .int .i64 n, .int .i64 k] w fun e w' => e = .returned (.tuple #[.int .i64 0, .int .i64 0]) ∧ Below w.heap.size w w' := by
  have B1 : ∀ ob, Below w.heap.size w (w.alloc ob) := fun ob => (Below.refl w.heap.size w).alloc (Nat.le_refl _) ob
  subst ho
  have d1 : decide (i < 0) = false := by simpa using hi
  have d2 : decide (n < i) = false := by simpa using hn
  clear hi hn
  unfold insV
  go_enter Tryd.func66, Tryd.ntmps66
  go_wp2_with fail
  refine (hf _).mono ?_
  rintro e w1 ⟨rfl, rfl⟩
  go_wp2_with fail
  refine (ha _).mono ?_
  rintro e w1 ⟨rfl, rfl⟩
  go_wp2_with fail
  refine (hb _).mono ?_
  rintro e w1 ⟨rfl, rfl⟩
  go_wp2_with fail
  refine (hc _).mono ?_
  rintro e w1 ⟨rfl, rfl⟩
  go_wp2_with fail
  go_ret2
  exact ⟨rfl, B1 _⟩

set_option maxRecDepth 100000 in
set_option maxHeartbeats 1000000 in
theorem rlast_Tj23lt (o a b c i n k : Int) (A B C : Bool) (w : World) (hf : ∀ w : World, Calls Tryd.prog 73 #[.int .i64 o] w fun e w' => e = .returned (.tuple #[.bool A, .bool B, .bool C, .bool true]) ∧ w' = w)
    (ha : ∀ w : World, Calls Tryd.prog 74 #[.int .i64 a, .bool A] w fun e w' => e = .returned (.int .i64 0) ∧ w' = w)
    (hb : ∀ w : World, Calls Tryd.prog 74 #[.int .i64 b, .bool B] w fun e w' => e = .returned (.int .i64 0) ∧ w' = w)
    (hc : ∀ w : World, Calls Tryd.prog 74 #[.int .i64 c, .bool C] w fun e w' => e = .returned (.int .i64 0) ∧ w' = w) (ho : o = 23) (hi : i < 0) :
    Calls Tryd.prog 66 #[insV ⟨o, a, b, c, i⟩, .int .i64 n, .int .i64 k] w fun e w' => e = .returned (.tuple #[.int .i64 12, .int .i64 4]) ∧ Below w.heap.size w w' := by
  have B1 : ∀ ob, Below w.heap.size w (w.alloc ob) := fun ob => (Below.refl w.heap.size w).alloc (Nat.le_refl _) ob
  subst ho
  unfold insV
  go_enter Tryd.func66, Tryd.ntmps66
  go_wp2_with fail
  refine (hf _).mono ?_
  rintro e w1 ⟨rfl, rfl⟩
  go_wp2_with fail
  refine (ha _).mono ?_
  rintro e w1 ⟨rfl, rfl⟩
  go_wp2_with fail
  refine (hb _).mono ?_
  rintro e w1 ⟨rfl, rfl⟩
  go_wp2_with fail
  refine (hc _).mono ?_
  rintro e w1 ⟨rfl, rfl⟩
  go_wp2_with fail
  go_ret2
  exact ⟨rfl, B1 _⟩

set_option maxRecDepth 100000 in
set_option maxHeartbeats 1000000 in
theorem rlast_Tj23gt (o a b c i n k : Int) (A B C : Bool) (w : World) (hf : ∀ w : World, Calls Tryd.prog 73 #[.int .i64 o] w fun e w' => e = .returned (.tuple #[.bool A, .bool B, .bool C, .bool true]) ∧ w' = w)
    (ha : ∀ w : World, Calls Tryd.prog 74 #[.int .i64 a, .bool A] w fun e w' => e = .returned (.int .i64 0) ∧ w' = w)
    (hb : ∀ w : World, Calls Tryd.prog 74 #[.int .i64 b, .bool B] w fun e w' => e = .returned (.int .i64 0) ∧ w' = w)
    (hc : ∀ w : World, Calls Tryd.prog 74 #[.int .i64 c, .bool C] w fun e w' => e = .returned (.int .i64 0) ∧ w' = w) (ho : o = 23) (hi : ¬ i < 0) (hn : n < i) :
    Calls Tryd.prog 66 #[insV ⟨o, a, b, c, i⟩, .int .i64 n, .int .i64 k] w fun e w' => e = .returned (.tuple #[.int .i64 12, .int .i64 4]) ∧ Below w.heap.size w w' := by
  have B1 : ∀ ob, Below w.heap.size w (w.alloc ob) := fun ob => (Below.refl w.heap.size w).alloc (Nat.le_refl _) ob
  subst ho
  have d1 : decide (i < 0) = false := by simpa using hi
  clear hi
  unfold insV
  go_enter Tryd.func66, Tryd.ntmps66
  go_wp2_with fail
  refine (hf _).mono ?_
  rintro e w1 ⟨rfl, rfl⟩
  go_wp2_with fail
  refine (ha _).mono ?_
  rintro e w1 ⟨rfl, rfl⟩
  go_wp2_with fail
  refine (hb _).mono ?_
  rintro e w1 ⟨rfl, rfl⟩
  go_wp2_with fail
  refine (hc _).mono ?_
  rintro e w1 ⟨rfl, rfl⟩
  go_wp2_with fail
  go_ret2
  exact ⟨rfl, B1 _⟩

set_option maxRecDepth 100000 in
set_option maxHeartbeats 1000000 in
theorem rlast_Tj23ok (o a b c i n k : Int) (A B C : Bool) (w : World) (hf : ∀ w : World, Calls Tryd.prog 73 #[.int .i64 o] w fun e w' => e = .returned (.tuple #[.bool A, .bool B, .bool C, .bool true]) ∧ w' = w)
    (ha : ∀ w : World, Calls Tryd.prog 74 #[.int .i64 a, .bool A] w fun e w' => e = .returned (.int .i64 0) ∧ w' = w)
    (hb : ∀ w : World, Calls Tryd.prog 74 #[.int .i64 b, .bool B] w fun e w' => e = .returned (.int .i64 0) ∧ w' = w)
    (hc : ∀ w : World, Calls Tryd.prog 74 #[.int .i64 c, .bool C] w fun e w' => e = .returned (.int .i64 0) ∧ w' = w) (ho : o = 23) (hi : ¬ i < 0) (hn : ¬ n < i) :
    Calls Tryd.prog 66 #[insV ⟨o, a, b, c, i⟩, .int .i64 n, .int .i64 k] w fun e w' => e = .returned (.tuple #[.int .i64 0, .int .i64 0]) ∧ Below w.heap.size w w' := by
  have B1 : ∀ ob, Below w.heap.size w (w.alloc ob) := fun ob => (Below.refl w.heap.size w).alloc (Nat.le_refl _) ob
  subst ho
  have d1 : decide (i < 0) = false := by simpa using hi
  have d2 : decide (n < i) = false := by simpa using hn
  clear hi hn
  unfold insV
  go_enter Tryd.func66, Tryd.ntmps66
  go_wp2_with fail
  refine (hf _).mono ?_
  rintro e w1 ⟨rfl, rfl⟩
  go_wp2_with fail
  refine (ha _).mono ?_
  rintro e w1 ⟨rfl, rfl⟩
  go_wp2_with fail
  refine (hb _).mono ?_
  rintro e w1 ⟨rfl, rfl⟩
  go_wp2_with fail
  refine (hc _).mono ?_
  rintro e w1 ⟨rfl, rfl⟩
  go_wp2_with fail
  go_ret2
  exact ⟨rfl, B1 _⟩

set_option maxRecDepth 100000 in
set_option maxHeartbeats 1000000 in
theorem rlast_Tl29lt (o a b c i n k : Int) (A B C : Bool) (w : World) (hf : ∀ w : World, Calls Tryd.prog 73 #[.int .i64 o] w fun e w' => e = .returned (.tuple #[.bool A, .bool B, .bool C, .bool true]) ∧ w' = w)
    (ha : ∀ w : World, Calls Tryd.prog 74 #[.int .i64 a, .bool A] w fun e w' => e = .returned (.int .i64 0) ∧ w' = w)
    (hb : ∀ w : World, Calls Tryd.prog 74 #[.int .i64 b, .bool B] w fun e w' => e = .returned (.int .i64 0) ∧ w' = w)
    (hc : ∀ w : World, Calls Tryd.prog 74 #[.int .i64 c, .bool C] w fun e w' => e = .returned (.int .i64 0) ∧ w' = w) (ho : o = 29) (hi : i < 0) :
    Calls Tryd.prog 66 #[insV ⟨o, a, b, c, i⟩, .int .i64 n, .int .i64 k] w fun e w' => e = .returned (.tuple #[.int .i64 13, .int .i64 4]) ∧ Below w.heap.size w w' := by
  have B1 : ∀ ob, Below w.heap.size w (w.alloc ob) := fun ob => (Below.refl w.heap.size w).alloc (Nat.le_refl _) ob
  subst ho
  unfold insV
  go_enter Tryd.func66, Tryd.ntmps66
  go_wp2_with fail
  refine (hf _).mono ?_
  rintro e w1 ⟨rfl, rfl⟩
  go_wp2_with fail
  refine (ha _).mono ?_
  rintro e w1 ⟨rfl, rfl⟩
  go_wp2_with fail
  refine (hb _).mono ?_
  rintro e w1 ⟨rfl, rfl⟩
  go_wp2_with fail
  refine (hc _).mono ?_
  rintro e w1 ⟨rfl, rfl⟩
  go_wp2_with fail
  go_ret2
  exact ⟨rfl, B1 _⟩

set_option maxRecDepth 100000 in
set_option maxHeartbeats 1000000 in
theorem rlast_Tl29gt (o a b c i n k : Int) (A B C : Bool) (w : World) (hf : ∀ w : World, Calls Tryd.prog 73 #[.int .i64 o] w fun e w' => e = .returned (.tuple #[.bool A, .bool B, .bool C, .bool true]) ∧ w' = w)
    (ha : ∀ w : World, Calls Tryd.prog 74 #[.int .i64 a, .bool A] w fun e w' => e = .returned (.int .i64 0) ∧ w' = w)
    (hb : ∀ w : World, Calls Tryd.prog 74 #[.int .i64 b, .bool B] w fun e w' => e = .returned (.int .i64 0) ∧ w' = w)
    (hc : ∀ w : World, Calls Tryd.prog 74 #[.int .i64 c, .bool C] w fun e w' => e = .returned (.int .i64 0) ∧ w' = w) (ho : o = 29) (hi : ¬ i < 0) (hn : k ≤ i) :
    Calls Tryd.prog 66 #[insV ⟨o, a, b, c, i⟩, .int .i64 n, .int .i64 k] w fun e w' => e = .returned (.tuple #[.int .i64 13, .int .i64 4]) ∧ Below w.heap.size w w' := by
  have B1 : ∀ ob, Below w.heap.size w (w.alloc ob) := fun ob => (Below.refl w.heap.size w).alloc (Nat.le_refl _) ob
  subst ho
  have d1 : decide (i < 0) = false := by simpa using hi
  clear hi
  unfold insV
  go_enter Tryd.func66, Tryd.ntmps66
  go_wp2_with fail
  refine (hf _).mono ?_
  rintro e w1 ⟨rfl, rfl⟩
  go_wp2_with fail
  refine (ha _).mono ?_
  rintro e w1 ⟨rfl, rfl⟩
  go_wp2_with fail
  refine (hb _).mono ?_
  rintro e w1 ⟨rfl, rfl⟩
  go_wp2_with fail
  refine (hc _).mono ?_
  rintro e w1 ⟨rfl, rfl⟩
  go_wp2_with fail
  go_ret2
  exact ⟨rfl, B1 _⟩

set_option maxRecDepth 100000 in
set_option maxHeartbeats 1000000 in
theorem rlast_Tl29ok (o a b c i n k : Int) (A B C : Bool) (w : World) (hf : ∀ w : World, Calls Tryd.prog 73 #[.int .i64 o] w fun e w' => e = .returned (.tuple #[.bool A, .bool B, .bool C, .bool true]) ∧ w' = w)
    (ha : ∀ w : World, Calls Tryd.prog 74 #[.int .i64 a, .bool A] w fun e w' => e = .returned (.int .i64 0) ∧ w' = w)
    (hb : ∀ w : World, Calls Tryd.prog 74 #[.int .i64 b, .bool B] w fun e w' => e = .returned (.int .i64 0) ∧ w' = w)
    (hc : ∀ w : World, Calls Tryd.prog 74 #[.int .i64 c, .bool C] w fun e w' => e = .returned (.int .i64 0) ∧ w' = w) (ho : o = 29) (hi : ¬ i < 0) (hn : ¬ k ≤ i) :
    Calls Tryd.prog 66 #[insV ⟨o, a, b, c, i⟩, .int .i64 n, .int .i64 k] w fun e w' => e = .returned (.tuple #[.int .i64 0, .int .i64 0]) ∧ Below w.heap.size w w' := by
  have B1 : ∀ ob, Below w.heap.size w (w.alloc ob) := fun ob => (Below.refl w.heap.size w).alloc (Nat.le_refl _) ob
  subst ho
  have d1 : decide (i < 0) = false := by simpa using hi
  have d2 : decide (k ≤ i) = false := by simpa using hn
  clear hi hn
  unfold insV
  go_enter Tryd.func66, Tryd.ntmps66
  go_wp2_with fail
  refine (hf _).mono ?_
  rintro e w1 ⟨rfl, rfl⟩
  go_wp2_with fail
  refine (ha _).mono ?_
  rintro e w1 ⟨rfl, rfl⟩
  go_wp2_with fail
  refine (hb _).mono ?_
  rintro e w1 ⟨rfl, rfl⟩
  go_wp2_with fail
  refine (hc _).mono ?_
  rintro e w1 ⟨rfl, rfl⟩
  go_wp2_with fail
  go_ret2
  exact ⟨rfl, B1 _⟩

set_option maxRecDepth 100000 in
set_option maxHeartbeats 1000000 in
theorem rlast_Tl30lt (o a b c i n k : Int) (A B C : Bool) (w : World) (hf : ∀ w : World, Calls Tryd.prog 73 #[.int .i64 o] w fun e w' => e = .returned (.tuple #[.bool A, .bool B, .bool C, .bool true]) ∧ w' = w)
    (ha : ∀ w : World, Calls Tryd.prog 74 #[.int .i64 a, .bool A] w fun e w' => e = .returned (.int .i64 0) ∧ w' = w)
    (hb : ∀ w : World, Calls Tryd.prog 74 #[.int .i64 b, .bool B] w fun e w' => e = .returned (.int .i64 0) ∧ w' = w)
    (hc : ∀ w : World, Calls Tryd.prog 74 #[.int .i64 c, .bool C] w fun e w' => e = .returned (.int .i64 0) ∧ w' = w) (ho : o = 30) (hi : i < 0) :
    Calls Tryd.prog 66 #[insV ⟨o, a, b, c, i⟩, .int .i64 n, .int .i64 k] w fun e w' => e = .returned (.tuple #[.int .i64 13, .int .i64 4]) ∧ Below w.heap.size w w' := by
  have B1 : ∀ ob, Below w.heap.size w (w.alloc ob) := fun ob => (Below.refl w.heap.size w).alloc (Nat.le_refl _) ob
  subst ho
  unfold insV
  go_enter Tryd.func66, Tryd.ntmps66
  go_wp2_with fail
  refine (hf _).mono ?_
  rintro e w1 ⟨rfl, rfl⟩
  go_wp2_with fail
  refine (ha _).mono ?_
  rintro e w1 ⟨rfl, rfl⟩
  go_wp2_with fail
  refine (hb _).mono ?_
  rintro e w1 ⟨rfl, rfl⟩
  go_wp2_with fail
  refine (hc _).mono ?_
  rintro e w1 ⟨rfl, rfl⟩
  go_wp2_with fail
  go_ret2
  exact ⟨rfl, B1 _⟩

set_option maxRecDepth 100000 in
set_option maxHeartbeats 1000000 in
theorem rlast_Tl30gt (o a b c i n k : Int) (A B C : Bool) (w : World) (hf : ∀ w : World, Calls Tryd.prog 73 #[.int .i64 o] w fun e w' => e = .returned (.tuple #[.bool A, .bool B, .bool C, .bool true]) ∧ w' = w)
    (ha : ∀ w : World, Calls Tryd.prog 74 #[.int .i64 a, .bool A] w fun e w' => e = .returned (.int .i64 0) ∧ w' = w)
    (hb : ∀ w : World, Calls Tryd.prog 74 #[.int .i64 b, .bool B] w fun e w' => e = .returned (.int .i64 0) ∧ w' = w)
    (hc : ∀ w : World, Calls Tryd.prog 74 #[.int .i64 c, .bool C] w fun e w' => e = .returned (.int .i64 0) ∧ w' = w) (ho : o = 30) (hi : ¬ i < 0) (hn : k ≤ i) :
    Calls Tryd.prog 66 #[insV ⟨o, a, b, c, i⟩, .int .i64 n, .int .i64 k] w fun e w' => e = .returned (.tuple #[.int .i64 13, .int .i64 4]) ∧ Below w.heap.size w w' := by
  have B1 : ∀ ob, Below w.heap.size w (w.alloc ob) := fun ob => (Below.refl w.heap.size w).alloc (Nat.le_refl _) ob
  subst ho
  have d1 : decide (i < 0) = false := by simpa using hi
  clear hi
  unfold insV
  go_enter Tryd.func66, Tryd.ntmps66
  go_wp2_with fail
  refine (hf _).mono ?_
  rintro e w1 ⟨rfl, rfl⟩
  go_wp2_with fail
  refine (ha _).mono ?_
  rintro e w1 ⟨rfl, rfl⟩
  go_wp2_with fail
  refine (hb _).mono ?_
  rintro e w1 ⟨rfl, rfl⟩
  go_wp2_with fail
  refine (hc _).mono ?_
  rintro e w1 ⟨rfl, rfl⟩
  go_wp2_with fail
  go_ret2
  exact ⟨rfl, B1 _⟩

set_option maxRecDepth 100000 in
set_option maxHeartbeats 1000000 in
theorem rlast_Tl30ok (o a b c i n k : Int) (A B C : Bool) (w : World) (hf : ∀ w : World, Calls Tryd.prog 73 #[.int .i64 o] w fun e w' => e = .returned (.tuple #[.bool A, .bool B, .bool C, .bool true]) ∧ w' = w)
    (ha : ∀ w : World, Calls Tryd.prog 74 #[.int .i64 a, .bool A] w fun e w' => e = .returned (.int .i64 0) ∧ w' = w)
    (hb : ∀ w : World, Calls Tryd.prog 74 #[.int .i64 b, .bool B] w fun e w' => e = .returned (.int .i64 0) ∧ w' = w)
    (hc : ∀ w : World, Calls Tryd.prog 74 #[.int .i64 c, .bool C] w fun e w' => e = .returned (.int .i64 0) ∧ w' = w) (ho : o = 30) (hi : ¬ i < 0) (hn : ¬ k ≤ i) :
    Calls Tryd.prog 66 #[insV ⟨o, a, b, c, i⟩, .int .i64 n, .int .i64 k] w fun e w' => e = .returned (.tuple #[.int .i64 0, .int .i64 0]) ∧ Below w.heap.size w w' := by
  have B1 : ∀ ob, Below w.heap.size w (w.alloc ob) := fun ob => (Below.refl w.heap.size w).alloc (Nat.le_refl _) ob
  subst ho
  have d1 : decide (i < 0) = false := by simpa using hi
  have d2 : decide (k ≤ i) = false := by simpa using hn
  clear hi hn
  unfold insV
  go_enter Tryd.func66, Tryd.ntmps66
  go_wp2_with fail
  refine (hf _).mono ?_
  rintro e w1 ⟨rfl, rfl⟩
  go_wp2_with fail
  refine (ha _).mono ?_
  rintro e w1 ⟨rfl, rfl⟩
  go_wp2_with fail
  refine (hb _).mono ?_
  rintro e w1 ⟨rfl, rfl⟩
  go_wp2_with fail
  refine (hc _).mono ?_
  rintro e w1 ⟨rfl, rfl⟩
  go_wp2_with fail
  go_ret2
  exact ⟨rfl, B1 _⟩

set_option maxRecDepth 100000 in
theorem rfault_no (o a b c i n k : Int) (w : World) (h : ¬ (0 ≤ o ∧ o < 34)) :
    Calls Tryd.prog 66 #[insV ⟨o, a, b, c, i⟩, .int .i64 n, .int .i64 k] w fun e w' => e = .returned (.tuple #[.int .i64 (wrong ⟨o, a, b, c, i⟩ n k).1, .int .i64 (wrong ⟨o, a, b, c, i⟩ n k).2]) ∧ Below w.heap.size w w' := by
  rw [wrong_op (x := ⟨o, a, b, c, i⟩) h]
  unfold insV
  by_cases h1 : o < 0
  · go_enter Tryd.func66, Tryd.ntmps66
    go_wp2_with fail
    go_ret2
    exact ⟨rfl, (Below.refl w.heap.size w).alloc (Nat.le_refl _) _⟩
  · have d1 : decide (o < 0) = false := by simpa using h1
    have d2 : 34 ≤ o := by omega
    clear h h1
    go_enter Tryd.func66, Tryd.ntmps66
    go_wp2_with fail
    go_ret2
    exact ⟨rfl, (Below.refl w.heap.size w).alloc (Nat.le_refl _) _⟩

theorem rfault_last (o a b c i n k : Int) (w : World) (h : 0 ≤ o ∧ o < 34) (ea : regE a (hA o) = 0) (eb : regE b (hB o) = 0) (ec : regE c (hC o) = 0) :
    Calls Tryd.prog 66 #[insV ⟨o, a, b, c, i⟩, .int .i64 n, .int .i64 k] w fun e w' => e = .returned (.tuple #[.int .i64 (wrong ⟨o, a, b, c, i⟩ n k).1, .int .i64 (wrong ⟨o, a, b, c, i⟩ n k).2]) ∧ Below w.heap.size w w' := by
  have hf := rfields_any o
  have ha := rregister_any a (hA o)
  have hb := rregister_any b (hB o)
  have hc := rregister_any c (hC o)
  rw [ea] at ha
  rw [eb] at hb
  rw [ec] at hc
  have key : wrong ⟨o, a, b, c, i⟩ n k = (immE o i n k, if immE o i n k = 0 then 0 else 4) := by
    by_cases ei : immE o i n k = 0
    · rw [wrong_no (x := ⟨o, a, b, c, i⟩) h ea eb ec ei, if_pos ei, ei]
    · rw [wrong_i (x := ⟨o, a, b, c, i⟩) h ea eb ec ei, if_neg ei]
  rw [key]
  generalize hA o = A at hf ha
  generalize hB o = B at hf hb
  generalize hC o = C at hf hc
  by_cases hi : hI o = true
  · rw [hi] at hf
    by_cases hj : o = 22 ∨ o = 23
    · by_cases h1 : i < 0
      · have e : immE o i n k = 12 := by unfold immE; rw [if_pos hi, if_pos hj, if_neg (by omega)]
        rw [e]
        rcases hj with hj | hj
        · exact rlast_Tj22lt o a b c i n k A B C w hf ha hb hc hj h1
        · exact rlast_Tj23lt o a b c i n k A B C w hf ha hb hc hj h1
      · by_cases h2 : n < i
        · have e : immE o i n k = 12 := by unfold immE; rw [if_pos hi, if_pos hj, if_neg (by omega)]
          rw [e]
          rcases hj with hj | hj
          · exact rlast_Tj22gt o a b c i n k A B C w hf ha hb hc hj h1 h2
          · exact rlast_Tj23gt o a b c i n k A B C w hf ha hb hc hj h1 h2
        · have e : immE o i n k = 0 := by unfold immE; rw [if_pos hi, if_pos hj, if_pos (by omega)]
          rw [e]
          rcases hj with hj | hj
          · exact rlast_Tj22ok o a b c i n k A B C w hf ha hb hc hj h1 h2
          · exact rlast_Tj23ok o a b c i n k A B C w hf ha hb hc hj h1 h2
    · by_cases hl : o = 29 ∨ o = 30
      · by_cases h1 : i < 0
        · have e : immE o i n k = 13 := by unfold immE; rw [if_pos hi, if_neg hj, if_pos hl, if_neg (by omega)]
          rw [e]
          rcases hl with hl | hl
          · exact rlast_Tl29lt o a b c i n k A B C w hf ha hb hc hl h1
          · exact rlast_Tl30lt o a b c i n k A B C w hf ha hb hc hl h1
        · by_cases h2 : k ≤ i
          · have e : immE o i n k = 13 := by unfold immE; rw [if_pos hi, if_neg hj, if_pos hl, if_neg (by omega)]
            rw [e]
            rcases hl with hl | hl
            · exact rlast_Tl29gt o a b c i n k A B C w hf ha hb hc hl h1 h2
            · exact rlast_Tl30gt o a b c i n k A B C w hf ha hb hc hl h1 h2
          · have e : immE o i n k = 0 := by unfold immE; rw [if_pos hi, if_neg hj, if_pos hl, if_pos (by omega)]
            rw [e]
            rcases hl with hl | hl
            · exact rlast_Tl29ok o a b c i n k A B C w hf ha hb hc hl h1 h2
            · exact rlast_Tl30ok o a b c i n k A B C w hf ha hb hc hl h1 h2
      · have e : immE o i n k = 0 := by unfold immE; rw [if_pos hi, if_neg hj, if_neg hl]
        rw [e]
        exact rlast_T0 o a b c i n k A B C w hf ha hb hc h (by omega)
  · have hi' : hI o = false := by simpa using hi
    rw [hi'] at hf
    have ho : ¬ (o = 22 ∨ o = 23 ∨ o = 29 ∨ o = 30) := fun h => hi (by rcases h with rfl | rfl | rfl | rfl <;> rfl)
    by_cases h1 : i = 0
    · have e : immE o i n k = 0 := by unfold immE; rw [if_neg hi, if_pos h1]
      rw [e]
      exact rlast_F0 o a b c i n k A B C w hf ha hb hc h ho h1
    · have e : immE o i n k = 11 := by unfold immE; rw [if_neg hi, if_neg h1]
      rw [e]
      exact rlast_F1 o a b c i n k A B C w hf ha hb hc h h1

theorem rfault_any (x : Ins) (n k : Int) (w : World) :
    Calls Tryd.prog 66 #[insV x, .int .i64 n, .int .i64 k] w fun e w' => e = .returned (.tuple #[.int .i64 (wrong x n k).1, .int .i64 (wrong x n k).2]) ∧ Below w.heap.size w w' := by
  obtain ⟨o, a, b, c, i⟩ := x
  by_cases h : 0 ≤ o ∧ o < 34
  · by_cases ea : regE a (hA o) = 0
    · by_cases eb : regE b (hB o) = 0
      · by_cases ec : regE c (hC o) = 0
        · exact rfault_last o a b c i n k w h ea eb ec
        · exact rfault_2 o a b c i n k w h ea eb ec
      · exact rfault_1 o a b c i n k w h ea eb
    · exact rfault_0 o a b c i n k w h ea
  · exact rfault_no o a b c i n k w h

set_option maxRecDepth 100000 in
theorem rcheck_any (x : Ins) (n k : Int) (w : World) :
    Calls Tryd.prog 51 #[insV x, .int .i64 n, .int .i64 k] w fun e w' => e = .returned (.int .i64 (wrong x n k).1) ∧ Below w.heap.size w w' := by
  have hf := rfault_any x n k
  generalize wrong x n k = R at hf ⊢
  unfold insV at *
  have B0 := Below.refl w.heap.size w
  have B1 : ∀ ob, Below w.heap.size w (w.alloc ob) := fun ob => B0.alloc (Nat.le_refl _) ob
  go_enter Tryd.func51, Tryd.ntmps51
  go_wp2_with fail
  refine (hf _).mono ?_
  rintro e w1 ⟨rfl, b1⟩
  replace b1 := (B1 _).trans (b1.mono (B1 _).size)
  go_wp2_with fail
  go_ret
  exact ⟨rfl, b1⟩
end Go.Proofs.YtmjokinagbpihaaDoor
