/- Which fields an instruction has: the program's table and the document's list. -/
import Derived.Test.YtmjokinagbpihaaDoorCW1
import Derived.Laws.BitsAllLaws
namespace Go.Proofs.YtmjokinagbpihaaDoor
open Go.RowKit

def tabF : List Int := [0, 9, 3, 7, 7, 7, 7, 7, 7, 7, 7, 7, 7, 7, 7, 7, 7, 7, 7, 7, 3, 3, 8, 9, 7, 3, 3, 1, 1, 8, 8, 1, 1, 1]

/-- The table lies in memory. -/
def Fld (w : World) : Prop := ∀ i, i < 34 → w.cell? ⟨1, i, none⟩ = some (.int .u8 (tabF.getD i 0))

theorem Fld.kept {w w' : World} (h : Fld w) (hb : Below w.heap.size w w') : Fld w' := fun i hi => (hb.cell (World.block_lt_of_cell? w _ (h i hi))).trans (h i hi)

theorem bitA : ∀ o : Nat, o < 34 → (bits .and .u8 (tabF.getD o 0) 1 == 0) = !hA o := by decide +kernel
theorem bitB : ∀ o : Nat, o < 34 → (bits .and .u8 (tabF.getD o 0) 2 == 0) = !hB o := by decide +kernel
theorem bitC : ∀ o : Nat, o < 34 → (bits .and .u8 (tabF.getD o 0) 4 == 0) = !hC o := by decide +kernel
theorem bitI : ∀ o : Nat, o < 34 → (bits .and .u8 (tabF.getD o 0) 8 == 0) = !hI o := by decide +kernel

theorem has_none {o : Int} (h : ¬ (0 ≤ o ∧ o < 34)) : hA o = false ∧ hB o = false ∧ hC o = false ∧ hI o = false := by
  refine ⟨?_, ?_, ?_, ?_⟩ <;> simp [hA, hB, hC, hI] <;> omega

theorem results_tmp4 {fn : Func} {t u v x : Tmp} (h : fn.results = #[.tmp t, .tmp u, .tmp v, .tmp x]) (tmps : Array Value) (P : Program) (w : World) :
    (results fn tmps).run P w = .ok (.tuple #[tmps.getD t undef, tmps.getD u undef, tmps.getD v undef, tmps.getD x undef]) w := by
  simp [results, h]

theorem ret_bools {a b c d a' b' c' d' : Bool} (h1 : a = a') (h2 : b = b') (h3 : c = c') (h4 : d = d') : Ending.returned (.tuple #[.bool a, .bool b, .bool c, .bool d]) = .returned (.tuple #[.bool a', .bool b', .bool c', .bool d']) := by rw [h1, h2, h3, h4]

set_option maxRecDepth 100000 in
theorem fields_any (o : Int) (w : World) (hF : Fld w) :
    Calls Tryd.prog 77 #[.int .i64 o] w fun e w' => e = .returned (.tuple #[.bool (hA o), .bool (hB o), .bool (hC o), .bool (hI o)]) ∧ w' = w := by
  have hk := known_any o
  by_cases h : 0 ≤ o ∧ o < 34
  · obtain ⟨n, rfl⟩ := Int.eq_ofNat_of_zero_le h.1
    have hn : n < 34 := by omega
    rw [show (decide (0 ≤ (n : Int)) && decide ((n : Int) < 34)) = true by simp; omega] at hk
    have hc := hF n hn
    have ea := bitA n hn
    have eb := bitB n hn
    have ec := bitC n hn
    have ei := bitI n hn
    generalize tabF.getD n 0 = t at hc ea eb ec ei
    generalize hA (n : Int) = A at ea ⊢
    generalize hB (n : Int) = B at eb ⊢
    generalize hC (n : Int) = C at ec ⊢
    generalize hI (n : Int) = I at ei ⊢
    clear hF h
    go_enter Tryd.func77, Tryd.ntmps77
    go_wp2_with (go_at_call 76; refine (hk _).mono ?_; rintro e w1 ⟨rfl, rfl⟩)
    (try simp only [Exit.inBlock, Exit.then]); refine bodyPost_ret (results_tmp4 rfl _ _ _) rfl ?_
    exact ⟨ret_bools (by simp [bne, ea]) (by simp [bne, eb]) (by simp [bne, ec]) (by simp [bne, ei]), rfl⟩
  · obtain ⟨e1, e2, e3, e4⟩ := has_none h
    rw [show (decide (0 ≤ o) && decide (o < 34)) = false by simpa using h] at hk
    rw [e1, e2, e3, e4]
    clear e1 e2 e3 e4 h
    go_enter Tryd.func77, Tryd.ntmps77
    go_wp2_with (go_at_call 76; refine (hk _).mono ?_; rintro e w1 ⟨rfl, rfl⟩)
    (try simp only [Exit.inBlock, Exit.then]); refine bodyPost_ret (results_tmp4 rfl _ _ _) rfl ?_
    exact ⟨rfl, rfl⟩


set_option maxRecDepth 100000 in
theorem rfields_1 (w : World) :
    Calls Tryd.prog 73 #[.int .i64 1] w fun e w' => e = .returned (.tuple #[.bool true, .bool false, .bool false, .bool true]) ∧ w' = w := by
  go_enter Tryd.func73, Tryd.ntmps73
  go_wp2
  (try simp only [Exit.inBlock, Exit.then]); refine bodyPost_ret (results_tmp4 rfl _ _ _) rfl ?_
  exact ⟨rfl, rfl⟩


set_option maxRecDepth 100000 in
theorem rfields_2 (w : World) :
    Calls Tryd.prog 73 #[.int .i64 2] w fun e w' => e = .returned (.tuple #[.bool true, .bool true, .bool false, .bool false]) ∧ w' = w := by
  go_enter Tryd.func73, Tryd.ntmps73
  go_wp2
  (try simp only [Exit.inBlock, Exit.then]); refine bodyPost_ret (results_tmp4 rfl _ _ _) rfl ?_
  exact ⟨rfl, rfl⟩


set_option maxRecDepth 100000 in
theorem rfields_3 (w : World) :
    Calls Tryd.prog 73 #[.int .i64 3] w fun e w' => e = .returned (.tuple #[.bool true, .bool true, .bool true, .bool false]) ∧ w' = w := by
  go_enter Tryd.func73, Tryd.ntmps73
  go_wp2
  (try simp only [Exit.inBlock, Exit.then]); refine bodyPost_ret (results_tmp4 rfl _ _ _) rfl ?_
  exact ⟨rfl, rfl⟩


set_option maxRecDepth 100000 in
theorem rfields_4 (w : World) :
    Calls Tryd.prog 73 #[.int .i64 4] w fun e w' => e = .returned (.tuple #[.bool true, .bool true, .bool true, .bool false]) ∧ w' = w := by
  go_enter Tryd.func73, Tryd.ntmps73
  go_wp2
  (try simp only [Exit.inBlock, Exit.then]); refine bodyPost_ret (results_tmp4 rfl _ _ _) rfl ?_
  exact ⟨rfl, rfl⟩


set_option maxRecDepth 100000 in
theorem rfields_5 (w : World) :
    Calls Tryd.prog 73 #[.int .i64 5] w fun e w' => e = .returned (.tuple #[.bool true, .bool true, .bool true, .bool false]) ∧ w' = w := by
  go_enter Tryd.func73, Tryd.ntmps73
  go_wp2
  (try simp only [Exit.inBlock, Exit.then]); refine bodyPost_ret (results_tmp4 rfl _ _ _) rfl ?_
  exact ⟨rfl, rfl⟩


set_option maxRecDepth 100000 in
theorem rfields_6 (w : World) :
    Calls Tryd.prog 73 #[.int .i64 6] w fun e w' => e = .returned (.tuple #[.bool true, .bool true, .bool true, .bool false]) ∧ w' = w := by
  go_enter Tryd.func73, Tryd.ntmps73
  go_wp2
  (try simp only [Exit.inBlock, Exit.then]); refine bodyPost_ret (results_tmp4 rfl _ _ _) rfl ?_
  exact ⟨rfl, rfl⟩


set_option maxRecDepth 100000 in
theorem rfields_7 (w : World) :
    Calls Tryd.prog 73 #[.int .i64 7] w fun e w' => e = .returned (.tuple #[.bool true, .bool true, .bool true, .bool false]) ∧ w' = w := by
  go_enter Tryd.func73, Tryd.ntmps73
  go_wp2
  (try simp only [Exit.inBlock, Exit.then]); refine bodyPost_ret (results_tmp4 rfl _ _ _) rfl ?_
  exact ⟨rfl, rfl⟩


set_option maxRecDepth 100000 in
theorem rfields_8 (w : World) :
    Calls Tryd.prog 73 #[.int .i64 8] w fun e w' => e = .returned (.tuple #[.bool true, .bool true, .bool true, .bool false]) ∧ w' = w := by
  go_enter Tryd.func73, Tryd.ntmps73
  go_wp2
  (try simp only [Exit.inBlock, Exit.then]); refine bodyPost_ret (results_tmp4 rfl _ _ _) rfl ?_
  exact ⟨rfl, rfl⟩


set_option maxRecDepth 100000 in
theorem rfields_9 (w : World) :
    Calls Tryd.prog 73 #[.int .i64 9] w fun e w' => e = .returned (.tuple #[.bool true, .bool true, .bool true, .bool false]) ∧ w' = w := by
  go_enter Tryd.func73, Tryd.ntmps73
  go_wp2
  (try simp only [Exit.inBlock, Exit.then]); refine bodyPost_ret (results_tmp4 rfl _ _ _) rfl ?_
  exact ⟨rfl, rfl⟩


set_option maxRecDepth 100000 in
theorem rfields_10 (w : World) :
    Calls Tryd.prog 73 #[.int .i64 10] w fun e w' => e = .returned (.tuple #[.bool true, .bool true, .bool true, .bool false]) ∧ w' = w := by
  go_enter Tryd.func73, Tryd.ntmps73
  go_wp2
  (try simp only [Exit.inBlock, Exit.then]); refine bodyPost_ret (results_tmp4 rfl _ _ _) rfl ?_
  exact ⟨rfl, rfl⟩


set_option maxRecDepth 100000 in
theorem rfields_11 (w : World) :
    Calls Tryd.prog 73 #[.int .i64 11] w fun e w' => e = .returned (.tuple #[.bool true, .bool true, .bool true, .bool false]) ∧ w' = w := by
  go_enter Tryd.func73, Tryd.ntmps73
  go_wp2
  (try simp only [Exit.inBlock, Exit.then]); refine bodyPost_ret (results_tmp4 rfl _ _ _) rfl ?_
  exact ⟨rfl, rfl⟩


set_option maxRecDepth 100000 in
theorem rfields_12 (w : World) :
    Calls Tryd.prog 73 #[.int .i64 12] w fun e w' => e = .returned (.tuple #[.bool true, .bool true, .bool true, .bool false]) ∧ w' = w := by
  go_enter Tryd.func73, Tryd.ntmps73
  go_wp2
  (try simp only [Exit.inBlock, Exit.then]); refine bodyPost_ret (results_tmp4 rfl _ _ _) rfl ?_
  exact ⟨rfl, rfl⟩


set_option maxRecDepth 100000 in
theorem rfields_13 (w : World) :
    Calls Tryd.prog 73 #[.int .i64 13] w fun e w' => e = .returned (.tuple #[.bool true, .bool true, .bool true, .bool false]) ∧ w' = w := by
  go_enter Tryd.func73, Tryd.ntmps73
  go_wp2
  (try simp only [Exit.inBlock, Exit.then]); refine bodyPost_ret (results_tmp4 rfl _ _ _) rfl ?_
  exact ⟨rfl, rfl⟩


set_option maxRecDepth 100000 in
theorem rfields_14 (w : World) :
    Calls Tryd.prog 73 #[.int .i64 14] w fun e w' => e = .returned (.tuple #[.bool true, .bool true, .bool true, .bool false]) ∧ w' = w := by
  go_enter Tryd.func73, Tryd.ntmps73
  go_wp2
  (try simp only [Exit.inBlock, Exit.then]); refine bodyPost_ret (results_tmp4 rfl _ _ _) rfl ?_
  exact ⟨rfl, rfl⟩


set_option maxRecDepth 100000 in
theorem rfields_15 (w : World) :
    Calls Tryd.prog 73 #[.int .i64 15] w fun e w' => e = .returned (.tuple #[.bool true, .bool true, .bool true, .bool false]) ∧ w' = w := by
  go_enter Tryd.func73, Tryd.ntmps73
  go_wp2
  (try simp only [Exit.inBlock, Exit.then]); refine bodyPost_ret (results_tmp4 rfl _ _ _) rfl ?_
  exact ⟨rfl, rfl⟩


set_option maxRecDepth 100000 in
theorem rfields_16 (w : World) :
    Calls Tryd.prog 73 #[.int .i64 16] w fun e w' => e = .returned (.tuple #[.bool true, .bool true, .bool true, .bool false]) ∧ w' = w := by
  go_enter Tryd.func73, Tryd.ntmps73
  go_wp2
  (try simp only [Exit.inBlock, Exit.then]); refine bodyPost_ret (results_tmp4 rfl _ _ _) rfl ?_
  exact ⟨rfl, rfl⟩


set_option maxRecDepth 100000 in
theorem rfields_17 (w : World) :
    Calls Tryd.prog 73 #[.int .i64 17] w fun e w' => e = .returned (.tuple #[.bool true, .bool true, .bool true, .bool false]) ∧ w' = w := by
  go_enter Tryd.func73, Tryd.ntmps73
  go_wp2
  (try simp only [Exit.inBlock, Exit.then]); refine bodyPost_ret (results_tmp4 rfl _ _ _) rfl ?_
  exact ⟨rfl, rfl⟩


set_option maxRecDepth 100000 in
theorem rfields_18 (w : World) :
    Calls Tryd.prog 73 #[.int .i64 18] w fun e w' => e = .returned (.tuple #[.bool true, .bool true, .bool true, .bool false]) ∧ w' = w := by
  go_enter Tryd.func73, Tryd.ntmps73
  go_wp2
  (try simp only [Exit.inBlock, Exit.then]); refine bodyPost_ret (results_tmp4 rfl _ _ _) rfl ?_
  exact ⟨rfl, rfl⟩


set_option maxRecDepth 100000 in
theorem rfields_19 (w : World) :
    Calls Tryd.prog 73 #[.int .i64 19] w fun e w' => e = .returned (.tuple #[.bool true, .bool true, .bool true, .bool false]) ∧ w' = w := by
  go_enter Tryd.func73, Tryd.ntmps73
  go_wp2
  (try simp only [Exit.inBlock, Exit.then]); refine bodyPost_ret (results_tmp4 rfl _ _ _) rfl ?_
  exact ⟨rfl, rfl⟩


set_option maxRecDepth 100000 in
theorem rfields_20 (w : World) :
    Calls Tryd.prog 73 #[.int .i64 20] w fun e w' => e = .returned (.tuple #[.bool true, .bool true, .bool false, .bool false]) ∧ w' = w := by
  go_enter Tryd.func73, Tryd.ntmps73
  go_wp2
  (try simp only [Exit.inBlock, Exit.then]); refine bodyPost_ret (results_tmp4 rfl _ _ _) rfl ?_
  exact ⟨rfl, rfl⟩


set_option maxRecDepth 100000 in
theorem rfields_21 (w : World) :
    Calls Tryd.prog 73 #[.int .i64 21] w fun e w' => e = .returned (.tuple #[.bool true, .bool true, .bool false, .bool false]) ∧ w' = w := by
  go_enter Tryd.func73, Tryd.ntmps73
  go_wp2
  (try simp only [Exit.inBlock, Exit.then]); refine bodyPost_ret (results_tmp4 rfl _ _ _) rfl ?_
  exact ⟨rfl, rfl⟩


set_option maxRecDepth 100000 in
theorem rfields_22 (w : World) :
    Calls Tryd.prog 73 #[.int .i64 22] w fun e w' => e = .returned (.tuple #[.bool false, .bool false, .bool false, .bool true]) ∧ w' = w := by
  go_enter Tryd.func73, Tryd.ntmps73
  go_wp2
  (try simp only [Exit.inBlock, Exit.then]); refine bodyPost_ret (results_tmp4 rfl _ _ _) rfl ?_
  exact ⟨rfl, rfl⟩


set_option maxRecDepth 100000 in
theorem rfields_23 (w : World) :
    Calls Tryd.prog 73 #[.int .i64 23] w fun e w' => e = .returned (.tuple #[.bool true, .bool false, .bool false, .bool true]) ∧ w' = w := by
  go_enter Tryd.func73, Tryd.ntmps73
  go_wp2
  (try simp only [Exit.inBlock, Exit.then]); refine bodyPost_ret (results_tmp4 rfl _ _ _) rfl ?_
  exact ⟨rfl, rfl⟩


set_option maxRecDepth 100000 in
theorem rfields_24 (w : World) :
    Calls Tryd.prog 73 #[.int .i64 24] w fun e w' => e = .returned (.tuple #[.bool true, .bool true, .bool true, .bool false]) ∧ w' = w := by
  go_enter Tryd.func73, Tryd.ntmps73
  go_wp2
  (try simp only [Exit.inBlock, Exit.then]); refine bodyPost_ret (results_tmp4 rfl _ _ _) rfl ?_
  exact ⟨rfl, rfl⟩


set_option maxRecDepth 100000 in
theorem rfields_25 (w : World) :
    Calls Tryd.prog 73 #[.int .i64 25] w fun e w' => e = .returned (.tuple #[.bool true, .bool true, .bool false, .bool false]) ∧ w' = w := by
  go_enter Tryd.func73, Tryd.ntmps73
  go_wp2
  (try simp only [Exit.inBlock, Exit.then]); refine bodyPost_ret (results_tmp4 rfl _ _ _) rfl ?_
  exact ⟨rfl, rfl⟩


set_option maxRecDepth 100000 in
theorem rfields_26 (w : World) :
    Calls Tryd.prog 73 #[.int .i64 26] w fun e w' => e = .returned (.tuple #[.bool true, .bool true, .bool false, .bool false]) ∧ w' = w := by
  go_enter Tryd.func73, Tryd.ntmps73
  go_wp2
  (try simp only [Exit.inBlock, Exit.then]); refine bodyPost_ret (results_tmp4 rfl _ _ _) rfl ?_
  exact ⟨rfl, rfl⟩


set_option maxRecDepth 100000 in
theorem rfields_27 (w : World) :
    Calls Tryd.prog 73 #[.int .i64 27] w fun e w' => e = .returned (.tuple #[.bool true, .bool false, .bool false, .bool false]) ∧ w' = w := by
  go_enter Tryd.func73, Tryd.ntmps73
  go_wp2
  (try simp only [Exit.inBlock, Exit.then]); refine bodyPost_ret (results_tmp4 rfl _ _ _) rfl ?_
  exact ⟨rfl, rfl⟩


set_option maxRecDepth 100000 in
theorem rfields_28 (w : World) :
    Calls Tryd.prog 73 #[.int .i64 28] w fun e w' => e = .returned (.tuple #[.bool true, .bool false, .bool false, .bool false]) ∧ w' = w := by
  go_enter Tryd.func73, Tryd.ntmps73
  go_wp2
  (try simp only [Exit.inBlock, Exit.then]); refine bodyPost_ret (results_tmp4 rfl _ _ _) rfl ?_
  exact ⟨rfl, rfl⟩


set_option maxRecDepth 100000 in
theorem rfields_29 (w : World) :
    Calls Tryd.prog 73 #[.int .i64 29] w fun e w' => e = .returned (.tuple #[.bool false, .bool false, .bool false, .bool true]) ∧ w' = w := by
  go_enter Tryd.func73, Tryd.ntmps73
  go_wp2
  (try simp only [Exit.inBlock, Exit.then]); refine bodyPost_ret (results_tmp4 rfl _ _ _) rfl ?_
  exact ⟨rfl, rfl⟩


set_option maxRecDepth 100000 in
theorem rfields_30 (w : World) :
    Calls Tryd.prog 73 #[.int .i64 30] w fun e w' => e = .returned (.tuple #[.bool false, .bool false, .bool false, .bool true]) ∧ w' = w := by
  go_enter Tryd.func73, Tryd.ntmps73
  go_wp2
  (try simp only [Exit.inBlock, Exit.then]); refine bodyPost_ret (results_tmp4 rfl _ _ _) rfl ?_
  exact ⟨rfl, rfl⟩


set_option maxRecDepth 100000 in
theorem rfields_31 (w : World) :
    Calls Tryd.prog 73 #[.int .i64 31] w fun e w' => e = .returned (.tuple #[.bool true, .bool false, .bool false, .bool false]) ∧ w' = w := by
  go_enter Tryd.func73, Tryd.ntmps73
  go_wp2
  (try simp only [Exit.inBlock, Exit.then]); refine bodyPost_ret (results_tmp4 rfl _ _ _) rfl ?_
  exact ⟨rfl, rfl⟩


set_option maxRecDepth 100000 in
theorem rfields_32 (w : World) :
    Calls Tryd.prog 73 #[.int .i64 32] w fun e w' => e = .returned (.tuple #[.bool true, .bool false, .bool false, .bool false]) ∧ w' = w := by
  go_enter Tryd.func73, Tryd.ntmps73
  go_wp2
  (try simp only [Exit.inBlock, Exit.then]); refine bodyPost_ret (results_tmp4 rfl _ _ _) rfl ?_
  exact ⟨rfl, rfl⟩


set_option maxRecDepth 100000 in
theorem rfields_33 (w : World) :
    Calls Tryd.prog 73 #[.int .i64 33] w fun e w' => e = .returned (.tuple #[.bool true, .bool false, .bool false, .bool false]) ∧ w' = w := by
  go_enter Tryd.func73, Tryd.ntmps73
  go_wp2
  (try simp only [Exit.inBlock, Exit.then]); refine bodyPost_ret (results_tmp4 rfl _ _ _) rfl ?_
  exact ⟨rfl, rfl⟩


set_option maxRecDepth 100000 in
theorem rfields_no (o : Int) (h : ¬ (1 ≤ o ∧ o < 34)) (w : World) :
    Calls Tryd.prog 73 #[.int .i64 o] w fun e w' => e = .returned (.tuple #[.bool false, .bool false, .bool false, .bool false]) ∧ w' = w := by
  have d1 : (o == 1) = false := by simp; omega
  have d2 : (o == 2) = false := by simp; omega
  have d3 : (o == 3) = false := by simp; omega
  have d4 : (o == 4) = false := by simp; omega
  have d5 : (o == 5) = false := by simp; omega
  have d6 : (o == 6) = false := by simp; omega
  have d7 : (o == 7) = false := by simp; omega
  have d8 : (o == 8) = false := by simp; omega
  have d9 : (o == 9) = false := by simp; omega
  have d10 : (o == 10) = false := by simp; omega
  have d11 : (o == 11) = false := by simp; omega
  have d12 : (o == 12) = false := by simp; omega
  have d13 : (o == 13) = false := by simp; omega
  have d14 : (o == 14) = false := by simp; omega
  have d15 : (o == 15) = false := by simp; omega
  have d16 : (o == 16) = false := by simp; omega
  have d17 : (o == 17) = false := by simp; omega
  have d18 : (o == 18) = false := by simp; omega
  have d19 : (o == 19) = false := by simp; omega
  have d20 : (o == 20) = false := by simp; omega
  have d21 : (o == 21) = false := by simp; omega
  have d22 : (o == 22) = false := by simp; omega
  have d23 : (o == 23) = false := by simp; omega
  have d24 : (o == 24) = false := by simp; omega
  have d25 : (o == 25) = false := by simp; omega
  have d26 : (o == 26) = false := by simp; omega
  have d27 : (o == 27) = false := by simp; omega
  have d28 : (o == 28) = false := by simp; omega
  have d29 : (o == 29) = false := by simp; omega
  have d30 : (o == 30) = false := by simp; omega
  have d31 : (o == 31) = false := by simp; omega
  have d32 : (o == 32) = false := by simp; omega
  have d33 : (o == 33) = false := by simp; omega
  clear h
  go_enter Tryd.func73, Tryd.ntmps73
  go_wp2
  (try simp only [Exit.inBlock, Exit.then]); refine bodyPost_ret (results_tmp4 rfl _ _ _) rfl ?_
  exact ⟨rfl, rfl⟩

theorem rfields_any (o : Int) (w : World) :
    Calls Tryd.prog 73 #[.int .i64 o] w fun e w' => e = .returned (.tuple #[.bool (hA o), .bool (hB o), .bool (hC o), .bool (hI o)]) ∧ w' = w := by
  by_cases h : 1 ≤ o ∧ o < 34
  · have hc : o = 1 ∨ o = 2 ∨ o = 3 ∨ o = 4 ∨ o = 5 ∨ o = 6 ∨ o = 7 ∨ o = 8 ∨ o = 9 ∨ o = 10 ∨ o = 11 ∨ o = 12 ∨ o = 13 ∨ o = 14 ∨ o = 15 ∨ o = 16 ∨ o = 17 ∨ o = 18 ∨ o = 19 ∨ o = 20 ∨ o = 21 ∨ o = 22 ∨ o = 23 ∨ o = 24 ∨ o = 25 ∨ o = 26 ∨ o = 27 ∨ o = 28 ∨ o = 29 ∨ o = 30 ∨ o = 31 ∨ o = 32 ∨ o = 33 := by omega
    rcases hc with rfl | rfl | rfl | rfl | rfl | rfl | rfl | rfl | rfl | rfl | rfl | rfl | rfl | rfl | rfl | rfl | rfl | rfl | rfl | rfl | rfl | rfl | rfl | rfl | rfl | rfl | rfl | rfl | rfl | rfl | rfl | rfl | rfl
    · exact rfields_1 w
    · exact rfields_2 w
    · exact rfields_3 w
    · exact rfields_4 w
    · exact rfields_5 w
    · exact rfields_6 w
    · exact rfields_7 w
    · exact rfields_8 w
    · exact rfields_9 w
    · exact rfields_10 w
    · exact rfields_11 w
    · exact rfields_12 w
    · exact rfields_13 w
    · exact rfields_14 w
    · exact rfields_15 w
    · exact rfields_16 w
    · exact rfields_17 w
    · exact rfields_18 w
    · exact rfields_19 w
    · exact rfields_20 w
    · exact rfields_21 w
    · exact rfields_22 w
    · exact rfields_23 w
    · exact rfields_24 w
    · exact rfields_25 w
    · exact rfields_26 w
    · exact rfields_27 w
    · exact rfields_28 w
    · exact rfields_29 w
    · exact rfields_30 w
    · exact rfields_31 w
    · exact rfields_32 w
    · exact rfields_33 w
  · have e : hA o = false ∧ hB o = false ∧ hC o = false ∧ hI o = false := by
      refine ⟨?_, ?_, ?_, ?_⟩ <;> simp [hA, hB, hC, hI] <;> omega
    rw [e.1, e.2.1, e.2.2.1, e.2.2.2]
    exact rfields_no o h w
end Go.Proofs.YtmjokinagbpihaaDoor
