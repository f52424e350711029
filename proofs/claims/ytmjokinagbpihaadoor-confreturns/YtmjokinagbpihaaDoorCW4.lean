/- What is wrong with an instruction, and in which field: the program and the document. -/
import Derived.Test.YtmjokinagbpihaaDoorCW3
namespace Go.Proofs.YtmjokinagbpihaaDoor
open Go.RowKit

theorem wrong_op {x : Ins} {n k : Int} (h : ¬ (0 ≤ x.op ∧ x.op < 34)) : wrong x n k = (9, 0) := by unfold wrong; rw [if_pos h]
theorem wrong_a {x : Ins} {n k : Int} (h : 0 ≤ x.op ∧ x.op < 34) (ha : regE x.a (hA x.op) ≠ 0) : wrong x n k = (regE x.a (hA x.op), 1) := by
  unfold wrong; rw [if_neg (by simpa using h), if_pos ha]
theorem wrong_b {x : Ins} {n k : Int} (h : 0 ≤ x.op ∧ x.op < 34) (ha : regE x.a (hA x.op) = 0) (hb : regE x.b (hB x.op) ≠ 0) : wrong x n k = (regE x.b (hB x.op), 2) := by
  unfold wrong; rw [if_neg (by simpa using h), if_neg (by simpa using ha), if_pos hb]
theorem wrong_c {x : Ins} {n k : Int} (h : 0 ≤ x.op ∧ x.op < 34) (ha : regE x.a (hA x.op) = 0) (hb : regE x.b (hB x.op) = 0) (hc : regE x.c (hC x.op) ≠ 0) : wrong x n k = (regE x.c (hC x.op), 3) := by
  unfold wrong; rw [if_neg (by simpa using h), if_neg (by simpa using ha), if_neg (by simpa using hb), if_pos hc]
theorem wrong_i {x : Ins} {n k : Int} (h : 0 ≤ x.op ∧ x.op < 34) (ha : regE x.a (hA x.op) = 0) (hb : regE x.b (hB x.op) = 0) (hc : regE x.c (hC x.op) = 0) (hi : immE x.op x.imm n k ≠ 0) : wrong x n k = (immE x.op x.imm n k, 4) := by
  unfold wrong; rw [if_neg (by simpa using h), if_neg (by simpa using ha), if_neg (by simpa using hb), if_neg (by simpa using hc), if_pos hi]
theorem wrong_no {x : Ins} {n k : Int} (h : 0 ≤ x.op ∧ x.op < 34) (ha : regE x.a (hA x.op) = 0) (hb : regE x.b (hB x.op) = 0) (hc : regE x.c (hC x.op) = 0) (hi : immE x.op x.imm n k = 0) : wrong x n k = (0, 0) := by
  unfold wrong; rw [if_neg (by simpa using h), if_neg (by simpa using ha), if_neg (by simpa using hb), if_neg (by simpa using hc), if_neg (by simpa using hi)]

set_option maxRecDepth 100000 in
set_option maxHeartbeats 1000000 in
theorem fault_0 (o a b c i n k : Int) (w : World) (hF : Fld w) (h : 0 ≤ o ∧ o < 34) (ea : regE a (hA o) ≠ 0) :
    Calls Tryd.prog 72 #[insV ⟨o, a, b, c, i⟩, .int .i64 n, .int .i64 k] w fun e w' => e = .returned (.tuple #[.int .i64 (wrong ⟨o, a, b, c, i⟩ n k).1, .int .i64 (wrong ⟨o, a, b, c, i⟩ n k).2]) ∧ Below w.heap.size w w' := by
  rw [wrong_a (x := ⟨o, a, b, c, i⟩) h ea]
  have B0 := Below.refl w.heap.size w
  have B1 : ∀ ob, Below w.heap.size w (w.alloc ob) := fun ob => B0.alloc (Nat.le_refl _) ob
  have hk := known_any o
  rw [show (decide (0 ≤ o) && decide (o < 34)) = true by simp; omega] at hk
  have hf : ∀ W, Below w.heap.size w W → _ := fun W hb => fields_any o W (hF.kept hb)
  have hi := number_any o a b c i n k
  unfold insV at hi
  have ha := register_any a (hA o)
  have hb := register_any b (hB o)
  have hc := register_any c (hC o)
  simp only
  generalize regE a (hA o) = E at ea ha ⊢
  have dq : (E == 0) = false := by simpa using ea
  unfold insV
  clear hF h ea
  generalize hA o = A at hf ha
  generalize hB o = B at hf hb
  generalize hC o = C at hf hc
  generalize hI o = I at hf hi
  go_enter Tryd.func72, Tryd.ntmps72
  go_wp2_with fail
  refine (hk _).mono ?_
  rintro e w1 ⟨rfl, rfl⟩
  go_wp2_with fail
  refine (hf _ (B1 _)).mono ?_
  rintro e w1 ⟨rfl, rfl⟩
  go_wp2_with fail
  refine (ha _).mono ?_
  rintro e w1 ⟨rfl, rfl⟩
  have b1 := B1
  go_wp2_with fail
  go_ret2
  exact ⟨rfl, b1 _⟩

set_option maxRecDepth 100000 in
set_option maxHeartbeats 1000000 in
theorem fault_1 (o a b c i n k : Int) (w : World) (hF : Fld w) (h : 0 ≤ o ∧ o < 34) (ea : regE a (hA o) = 0) (eb : regE b (hB o) ≠ 0) :
    Calls Tryd.prog 72 #[insV ⟨o, a, b, c, i⟩, .int .i64 n, .int .i64 k] w fun e w' => e = .returned (.tuple #[.int .i64 (wrong ⟨o, a, b, c, i⟩ n k).1, .int .i64 (wrong ⟨o, a, b, c, i⟩ n k).2]) ∧ Below w.heap.size w w' := by
  rw [wrong_b (x := ⟨o, a, b, c, i⟩) h ea eb]
  have B0 := Below.refl w.heap.size w
  have B1 : ∀ ob, Below w.heap.size w (w.alloc ob) := fun ob => B0.alloc (Nat.le_refl _) ob
  have hk := known_any o
  rw [show (decide (0 ≤ o) && decide (o < 34)) = true by simp; omega] at hk
  have hf : ∀ W, Below w.heap.size w W → _ := fun W hb => fields_any o W (hF.kept hb)
  have hi := number_any o a b c i n k
  unfold insV at hi
  have ha := register_any a (hA o)
  have hb := register_any b (hB o)
  have hc := register_any c (hC o)
  rw [ea] at ha
  simp only
  generalize regE b (hB o) = E at eb hb ⊢
  have dq : (E == 0) = false := by simpa using eb
  unfold insV
  clear hF h ea eb
  generalize hA o = A at hf ha
  generalize hB o = B at hf hb
  generalize hC o = C at hf hc
  generalize hI o = I at hf hi
  go_enter Tryd.func72, Tryd.ntmps72
  go_wp2_with fail
  refine (hk _).mono ?_
  rintro e w1 ⟨rfl, rfl⟩
  go_wp2_with fail
  refine (hf _ (B1 _)).mono ?_
  rintro e w1 ⟨rfl, rfl⟩
  go_wp2_with fail
  refine (ha _).mono ?_
  rintro e w1 ⟨rfl, rfl⟩
  go_wp2_with fail
  refine (hb _).mono ?_
  rintro e w1 ⟨rfl, rfl⟩
  have b1 := B1
  go_wp2_with fail
  go_ret2
  exact ⟨rfl, b1 _⟩

set_option maxRecDepth 100000 in
set_option maxHeartbeats 1000000 in
theorem fault_2 (o a b c i n k : Int) (w : World) (hF : Fld w) (h : 0 ≤ o ∧ o < 34) (ea : regE a (hA o) = 0) (eb : regE b (hB o) = 0) (ec : regE c (hC o) ≠ 0) :
    Calls Tryd.prog 72 #[insV ⟨o, a, b, c, i⟩, .int .i64 n, .int .i64 k] w fun e w' => e = .returned (.tuple #[.int .i64 (wrong ⟨o, a, b, c, i⟩ n k).1, .int .i64 (wrong ⟨o, a, b, c, i⟩ n k).2]) ∧ Below w.heap.size w w' := by
  rw [wrong_c (x := ⟨o, a, b, c, i⟩) h ea eb ec]
  have B0 := Below.refl w.heap.size w
  have B1 : ∀ ob, Below w.heap.size w (w.alloc ob) := fun ob => B0.alloc (Nat.le_refl _) ob
  have hk := known_any o
  rw [show (decide (0 ≤ o) && decide (o < 34)) = true by simp; omega] at hk
  have hf : ∀ W, Below w.heap.size w W → _ := fun W hb => fields_any o W (hF.kept hb)
  have hi := number_any o a b c i n k
  unfold insV at hi
  have ha := register_any a (hA o)
  have hb := register_any b (hB o)
  have hc := register_any c (hC o)
  rw [ea] at ha
  rw [eb] at hb
  simp only
  generalize regE c (hC o) = E at ec hc ⊢
  have dq : (E == 0) = false := by simpa using ec
  unfold insV
  clear hF h ea eb ec
  generalize hA o = A at hf ha
  generalize hB o = B at hf hb
  generalize hC o = C at hf hc
  generalize hI o = I at hf hi
  go_enter Tryd.func72, Tryd.ntmps72
  go_wp2_with fail
  refine (hk _).mono ?_
  rintro e w1 ⟨rfl, rfl⟩
  go_wp2_with fail
  refine (hf _ (B1 _)).mono ?_
  rintro e w1 ⟨rfl, rfl⟩
  go_wp2_with fail
  refine (ha _).mono ?_
  rintro e w1 ⟨rfl, rfl⟩
  go_wp2_with fail
  refine (hb _).mono ?_
  rintro e w1 ⟨rfl, rfl⟩
  go_wp2_with fail
  refine (hc _).mono ?_
  rintro e w1 ⟨rfl, rfl⟩
  have b1 := B1
  go_wp2_with fail
  go_ret2
  exact ⟨rfl, b1 _⟩

set_option maxRecDepth 100000 in
set_option maxHeartbeats 1000000 in
theorem fault_3 (o a b c i n k : Int) (w : World) (hF : Fld w) (h : 0 ≤ o ∧ o < 34) (ea : regE a (hA o) = 0) (eb : regE b (hB o) = 0) (ec : regE c (hC o) = 0) (ei : immE o i n k ≠ 0) :
    Calls Tryd.prog 72 #[insV ⟨o, a, b, c, i⟩, .int .i64 n, .int .i64 k] w fun e w' => e = .returned (.tuple #[.int .i64 (wrong ⟨o, a, b, c, i⟩ n k).1, .int .i64 (wrong ⟨o, a, b, c, i⟩ n k).2]) ∧ Below w.heap.size w w' := by
  rw [wrong_i (x := ⟨o, a, b, c, i⟩) h ea eb ec ei]
  have B0 := Below.refl w.heap.size w
  have B1 : ∀ ob, Below w.heap.size w (w.alloc ob) := fun ob => B0.alloc (Nat.le_refl _) ob
  have hk := known_any o
  rw [show (decide (0 ≤ o) && decide (o < 34)) = true by simp; omega] at hk
  have hf : ∀ W, Below w.heap.size w W → _ := fun W hb => fields_any o W (hF.kept hb)
  have hi := number_any o a b c i n k
  unfold insV at hi
  have ha := register_any a (hA o)
  have hb := register_any b (hB o)
  have hc := register_any c (hC o)
  rw [ea] at ha
  rw [eb] at hb
  rw [ec] at hc
  simp only
  generalize immE o i n k = E at ei hi ⊢
  have dq : (E == 0) = false := by simpa using ei
  unfold insV
  clear hF h ea eb ec ei
  generalize hA o = A at hf ha
  generalize hB o = B at hf hb
  generalize hC o = C at hf hc
  generalize hI o = I at hf hi
  go_enter Tryd.func72, Tryd.ntmps72
  go_wp2_with fail
  refine (hk _).mono ?_
  rintro e w1 ⟨rfl, rfl⟩
  go_wp2_with fail
  refine (hf _ (B1 _)).mono ?_
  rintro e w1 ⟨rfl, rfl⟩
  go_wp2_with fail
  refine (ha _).mono ?_
  rintro e w1 ⟨rfl, rfl⟩
  go_wp2_with fail
  refine (hb _).mono ?_
  rintro e w1 ⟨rfl, rfl⟩
  go_wp2_with fail
  refine (hc _).mono ?_
  rintro e w1 ⟨rfl, rfl⟩
  go_wp2_with fail
  refine (hi _).mono ?_
  rintro e w1 ⟨rfl, b1⟩
  replace b1 := (B1 _).trans (b1.mono (B1 _).size)
  go_wp2_with fail
  go_ret2
  exact ⟨rfl, b1⟩

set_option maxRecDepth 100000 in
set_option maxHeartbeats 1000000 in
theorem fault_4 (o a b c i n k : Int) (w : World) (hF : Fld w) (h : 0 ≤ o ∧ o < 34) (ea : regE a (hA o) = 0) (eb : regE b (hB o) = 0) (ec : regE c (hC o) = 0) (ei : immE o i n k = 0) :
    Calls Tryd.prog 72 #[insV ⟨o, a, b, c, i⟩, .int .i64 n, .int .i64 k] w fun e w' => e = .returned (.tuple #[.int .i64 (wrong ⟨o, a, b, c, i⟩ n k).1, .int .i64 (wrong ⟨o, a, b, c, i⟩ n k).2]) ∧ Below w.heap.size w w' := by
  rw [wrong_no (x := ⟨o, a, b, c, i⟩) h ea eb ec ei]
  have B0 := Below.refl w.heap.size w
  have B1 : ∀ ob, Below w.heap.size w (w.alloc ob) := fun ob => B0.alloc (Nat.le_refl _) ob
  have hk := known_any o
  rw [show (decide (0 ≤ o) && decide (o < 34)) = true by simp; omega] at hk
  have hf : ∀ W, Below w.heap.size w W → _ := fun W hb => fields_any o W (hF.kept hb)
  have hi := number_any o a b c i n k
  unfold insV at hi
  have ha := register_any a (hA o)
  have hb := register_any b (hB o)
  have hc := register_any c (hC o)
  rw [ea] at ha
  rw [eb] at hb
  rw [ec] at hc
  rw [ei] at hi
  unfold insV
  clear hF h ea eb ec ei
  generalize hA o = A at hf ha
  generalize hB o = B at hf hb
  generalize hC o = C at hf hc
  generalize hI o = I at hf hi
  go_enter Tryd.func72, Tryd.ntmps72
  go_wp2_with fail
  refine (hk _).mono ?_
  rintro e w1 ⟨rfl, rfl⟩
  go_wp2_with fail
  refine (hf _ (B1 _)).mono ?_
  rintro e w1 ⟨rfl, rfl⟩
  go_wp2_with fail
  refine (ha _).mono ?_
  rintro e w1 ⟨rfl, rfl⟩
  go_wp2_with fail
  refine (hb _).mono ?_
  rintro e w1 ⟨rfl, rfl⟩
  go_wp2_with fail
  refine (hc _).mono ?_
  rintro e w1 ⟨rfl, rfl⟩
  go_wp2_with fail
  refine (hi _).mono ?_
  rintro e w1 ⟨rfl, b1⟩
  replace b1 := (B1 _).trans (b1.mono (B1 _).size)
  go_wp2_with fail
  go_ret2
  exact ⟨rfl, b1⟩

set_option maxRecDepth 100000 in
theorem fault_no (o a b c i n k : Int) (w : World) (h : ¬ (0 ≤ o ∧ o < 34)) :
    Calls Tryd.prog 72 #[insV ⟨o, a, b, c, i⟩, .int .i64 n, .int .i64 k] w fun e w' => e = .returned (.tuple #[.int .i64 (wrong ⟨o, a, b, c, i⟩ n k).1, .int .i64 (wrong ⟨o, a, b, c, i⟩ n k).2]) ∧ Below w.heap.size w w' := by
  rw [wrong_op (x := ⟨o, a, b, c, i⟩) h]
  have hk := known_any o
  rw [show (decide (0 ≤ o) && decide (o < 34)) = false by simpa using h] at hk
  unfold insV
  clear h
  go_enter Tryd.func72, Tryd.ntmps72
  go_wp2_with fail
  refine (hk _).mono ?_
  rintro e w1 ⟨rfl, rfl⟩
  go_wp2_with fail
  go_ret2
  exact ⟨rfl, (Below.refl w.heap.size w).alloc (Nat.le_refl _) _⟩

theorem fault_any (x : Ins) (n k : Int) (w : World) (hF : Fld w) :
    Calls Tryd.prog 72 #[insV x, .int .i64 n, .int .i64 k] w fun e w' => e = .returned (.tuple #[.int .i64 (wrong x n k).1, .int .i64 (wrong x n k).2]) ∧ Below w.heap.size w w' := by
  obtain ⟨o, a, b, c, i⟩ := x
  by_cases h : 0 ≤ o ∧ o < 34
  · by_cases ea : regE a (hA o) = 0
    · by_cases eb : regE b (hB o) = 0
      · by_cases ec : regE c (hC o) = 0
        · by_cases ei : immE o i n k = 0
          · exact fault_4 o a b c i n k w hF h ea eb ec ei
          · exact fault_3 o a b c i n k w hF h ea eb ec ei
        · exact fault_2 o a b c i n k w hF h ea eb ec
      · exact fault_1 o a b c i n k w hF h ea eb
    · exact fault_0 o a b c i n k w hF h ea
  · exact fault_no o a b c i n k w h

set_option maxRecDepth 100000 in
theorem check_any (x : Ins) (n k : Int) (w : World) (hF : Fld w) :
    Calls Tryd.prog 65 #[insV x, .int .i64 n, .int .i64 k] w fun e w' => e = .returned (.int .i64 (wrong x n k).1) ∧ Below w.heap.size w w' := by
  have hf : ∀ W, Below w.heap.size w W → _ := fun W hb => fault_any x n k W (hF.kept hb)
  generalize wrong x n k = R at hf ⊢
  clear hF
  unfold insV at *
  have B0 := Below.refl w.heap.size w
  have B1 : ∀ ob, Below w.heap.size w (w.alloc ob) := fun ob => B0.alloc (Nat.le_refl _) ob
  go_enter Tryd.func65, Tryd.ntmps65
  go_wp2_with fail
  first
    | (refine (hf _ (B1 _)).mono ?_
       rintro e w1 ⟨rfl, b1⟩
       replace b1 := (B1 _).trans (b1.mono (B1 _).size))
    | (refine (hf _ B0).mono ?_
       rintro e w1 ⟨rfl, b1⟩)
  go_wp2_with fail
  go_ret
  exact ⟨rfl, b1⟩
end Go.Proofs.YtmjokinagbpihaaDoor
