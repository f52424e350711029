/- The library's own form of a float's digits and exponent. -/
import Derived.Test.YtalaajniammggaaGreatDoorXWc
namespace Go.Proofs.YtalaajniammggaaGreatDoor
open Go.RowKit
set_option maxRecDepth 100000 in
set_option maxHeartbeats 2000000 in
theorem fmtE_0001 (B q b : Nat) (w : World) (g : Nat → UInt8) (M : Nat) (hM : M < 10) (hB : Buf B w q 0 []) (_hq : b ≠ q)
  (hc : ∀ t,t < 1 → w.cell? ⟨b,t,none⟩ = some (.int .u8 ((g t).toNat : Int))) :
  Calls Tryz.prog 143 #[.slice (some ⟨q,0,none⟩) 0 24,.bool false,.slice (some ⟨b,0,none⟩) 32 32,.int .i64 ((M : Int) + 1),.int .i64 1,.int .i64 0,.int .u8 101,.bool true] w fun e w' =>
   ∃ N,e = .returned (.slice (some ⟨q,0,none⟩) N 24) ∧ Buf B w' q N (fmtL false g 1 false M) ∧ Below B w w' := by
 obtain ⟨hBq,hqw⟩ := hB.base
 have hb0 := Below.refl B w
 go_enter Tryz.func143,Tryz.ntmps143
 go_wp2_with (first
  | (at_builtin; refine wp_app _ rfl _ _ rfl B q _ _ [g 0] 1 _ rfl (Buf.alloc hB _) ⟨_,0,none⟩ rfl rfl (news_new _ _ _ (by first | rfl | (simp [Lib.byteCells]))) (by omega) ?_; intro w1 N1 hN1 hB1 hg1; have hb1 : Below B w w1 := (hb0.alloc (by have := hb0.size; omega) _).grown hg1 (by simp; have := hb0.size; omega) (fun j hj => by cases hj; omega))
  | (at_builtin; refine wp_app _ rfl _ _ rfl B q _ _ [101] 1 _ rfl (Buf.alloc hB1 _) ⟨_,0,none⟩ rfl rfl (news_new _ _ _ (by first | rfl | (simp [Lib.byteCells]))) (by have := hN1.out; omega) ?_; intro w2 N2 hN2 hB2 hg2; have hb2 : Below B w w2 := (hb1.alloc (by have := hb1.size; omega) _).grown hg2 (by simp; have := hb1.size; omega) (fun j hj => by cases hj; omega))
  | (at_builtin; refine wp_app _ rfl _ _ rfl B q _ _ [43] 1 _ rfl (Buf.alloc hB2 _) ⟨_,0,none⟩ rfl rfl (news_new _ _ _ (by first | rfl | (simp [Lib.byteCells]))) (by have := hN1.out; have := hN2.out; omega) ?_; intro w3 N3 hN3 hB3 hg3; have hb3 : Below B w w3 := (hb2.alloc (by have := hb2.size; omega) _).grown hg3 (by simp; have := hb2.size; omega) (fun j hj => by cases hj; omega))
  | (at_builtin; refine wp_app _ rfl _ _ rfl B q _ _ [48,UInt8.ofNat (48 + M)] 2 _ rfl (Buf.alloc hB3 _) ⟨_,0,none⟩ rfl rfl (news_new _ _ _ (by simp [Lib.byteCells]; omega)) (by have := hN1.out; have := hN2.out; have := hN3.out; omega) ?_; intro w4 N4 hN4 hB4 hg4; have hb4 : Below B w w4 := (hb3.alloc (by have := hb3.size; omega) _).grown hg4 (by simp; have := hb3.size; omega) (fun j hj => by cases hj; omega)))
 go_ret
 refine ⟨_,rfl,?_,hb4⟩
 have e : expD M = [48,UInt8.ofNat (48 + M)] := by unfold expD; rw [if_pos hM]
 have hf := hB4
 unfold fmtL
 rw [← e] at hf
 generalize expD M = D at hf ⊢
 simpa using hf
set_option maxRecDepth 100000 in
set_option maxHeartbeats 2000000 in
theorem fmtE_0002 (B q b : Nat) (w : World) (g : Nat → UInt8) (M : Nat) (hM0 : 10 ≤ M) (hM : M < 100) (hB : Buf B w q 0 []) (_hq : b ≠ q)
  (hc : ∀ t,t < 1 → w.cell? ⟨b,t,none⟩ = some (.int .u8 ((g t).toNat : Int))) :
  Calls Tryz.prog 143 #[.slice (some ⟨q,0,none⟩) 0 24,.bool false,.slice (some ⟨b,0,none⟩) 32 32,.int .i64 ((M : Int) + 1),.int .i64 1,.int .i64 0,.int .u8 101,.bool true] w fun e w' =>
   ∃ N,e = .returned (.slice (some ⟨q,0,none⟩) N 24) ∧ Buf B w' q N (fmtL false g 1 false M) ∧ Below B w w' := by
 have hM1 : decide ((M : Int) < 10) = false := by simp; omega
 obtain ⟨hBq,hqw⟩ := hB.base
 have hb0 := Below.refl B w
 go_enter Tryz.func143,Tryz.ntmps143
 go_wp2_with (first
  | (at_builtin; refine wp_app _ rfl _ _ rfl B q _ _ [g 0] 1 _ rfl (Buf.alloc hB _) ⟨_,0,none⟩ rfl rfl (news_new _ _ _ (by first | rfl | (simp [Lib.byteCells]))) (by omega) ?_; intro w1 N1 hN1 hB1 hg1; have hb1 : Below B w w1 := (hb0.alloc (by have := hb0.size; omega) _).grown hg1 (by simp; have := hb0.size; omega) (fun j hj => by cases hj; omega))
  | (at_builtin; refine wp_app _ rfl _ _ rfl B q _ _ [101] 1 _ rfl (Buf.alloc hB1 _) ⟨_,0,none⟩ rfl rfl (news_new _ _ _ (by first | rfl | (simp [Lib.byteCells]))) (by have := hN1.out; omega) ?_; intro w2 N2 hN2 hB2 hg2; have hb2 : Below B w w2 := (hb1.alloc (by have := hb1.size; omega) _).grown hg2 (by simp; have := hb1.size; omega) (fun j hj => by cases hj; omega))
  | (at_builtin; refine wp_app _ rfl _ _ rfl B q _ _ [43] 1 _ rfl (Buf.alloc hB2 _) ⟨_,0,none⟩ rfl rfl (news_new _ _ _ (by first | rfl | (simp [Lib.byteCells]))) (by have := hN1.out; have := hN2.out; omega) ?_; intro w3 N3 hN3 hB3 hg3; have hb3 : Below B w w3 := (hb2.alloc (by have := hb2.size; omega) _).grown hg3 (by simp; have := hb2.size; omega) (fun j hj => by cases hj; omega))
  | (at_builtin; refine wp_app _ rfl _ _ rfl B q _ _ [UInt8.ofNat (48 + M / 10),UInt8.ofNat (48 + M % 10)] 2 _ rfl (Buf.alloc hB3 _) ⟨_,0,none⟩ rfl rfl (news_new _ _ _ (by simp [Lib.byteCells]; omega)) (by have := hN1.out; have := hN2.out; have := hN3.out; omega) ?_; intro w4 N4 hN4 hB4 hg4; have hb4 : Below B w w4 := (hb3.alloc (by have := hb3.size; omega) _).grown hg4 (by simp; have := hb3.size; omega) (fun j hj => by cases hj; omega)))
 go_ret
 refine ⟨_,rfl,?_,hb4⟩
 have e : expD M = [UInt8.ofNat (48 + M / 10),UInt8.ofNat (48 + M % 10)] := by unfold expD; rw [if_neg (by omega),if_pos hM]
 have hf := hB4
 unfold fmtL
 rw [← e] at hf
 generalize expD M = D at hf ⊢
 simpa using hf
set_option maxRecDepth 100000 in
set_option maxHeartbeats 2000000 in
theorem fmtE_0003 (B q b : Nat) (w : World) (g : Nat → UInt8) (M : Nat) (hM0 : 100 ≤ M) (hM : M < 400) (hB : Buf B w q 0 []) (_hq : b ≠ q)
  (hc : ∀ t,t < 1 → w.cell? ⟨b,t,none⟩ = some (.int .u8 ((g t).toNat : Int))) :
  Calls Tryz.prog 143 #[.slice (some ⟨q,0,none⟩) 0 24,.bool false,.slice (some ⟨b,0,none⟩) 32 32,.int .i64 ((M : Int) + 1),.int .i64 1,.int .i64 0,.int .u8 101,.bool true] w fun e w' =>
   ∃ N,e = .returned (.slice (some ⟨q,0,none⟩) N 24) ∧ Buf B w' q N (fmtL false g 1 false M) ∧ Below B w w' := by
 have hM1 : decide ((M : Int) < 10) = false := by simp; omega
 have hM2 : decide ((M : Int) < 100) = false := by simp; omega
 obtain ⟨hBq,hqw⟩ := hB.base
 have hb0 := Below.refl B w
 go_enter Tryz.func143,Tryz.ntmps143
 go_wp2_with (first
  | (at_builtin; refine wp_app _ rfl _ _ rfl B q _ _ [g 0] 1 _ rfl (Buf.alloc hB _) ⟨_,0,none⟩ rfl rfl (news_new _ _ _ (by first | rfl | (simp [Lib.byteCells]))) (by omega) ?_; intro w1 N1 hN1 hB1 hg1; have hb1 : Below B w w1 := (hb0.alloc (by have := hb0.size; omega) _).grown hg1 (by simp; have := hb0.size; omega) (fun j hj => by cases hj; omega))
  | (at_builtin; refine wp_app _ rfl _ _ rfl B q _ _ [101] 1 _ rfl (Buf.alloc hB1 _) ⟨_,0,none⟩ rfl rfl (news_new _ _ _ (by first | rfl | (simp [Lib.byteCells]))) (by have := hN1.out; omega) ?_; intro w2 N2 hN2 hB2 hg2; have hb2 : Below B w w2 := (hb1.alloc (by have := hb1.size; omega) _).grown hg2 (by simp; have := hb1.size; omega) (fun j hj => by cases hj; omega))
  | (at_builtin; refine wp_app _ rfl _ _ rfl B q _ _ [43] 1 _ rfl (Buf.alloc hB2 _) ⟨_,0,none⟩ rfl rfl (news_new _ _ _ (by first | rfl | (simp [Lib.byteCells]))) (by have := hN1.out; have := hN2.out; omega) ?_; intro w3 N3 hN3 hB3 hg3; have hb3 : Below B w w3 := (hb2.alloc (by have := hb2.size; omega) _).grown hg3 (by simp; have := hb2.size; omega) (fun j hj => by cases hj; omega))
  | (at_builtin; refine wp_app _ rfl _ _ rfl B q _ _ [UInt8.ofNat (48 + M / 100),UInt8.ofNat (48 + M / 10 % 10),UInt8.ofNat (48 + M % 10)] 3 _ rfl (Buf.alloc hB3 _) ⟨_,0,none⟩ rfl rfl (news_new _ _ _ (by simp [Lib.byteCells]; omega)) (by have := hN1.out; have := hN2.out; have := hN3.out; omega) ?_; intro w4 N4 hN4 hB4 hg4; have hb4 : Below B w w4 := (hb3.alloc (by have := hb3.size; omega) _).grown hg4 (by simp; have := hb3.size; omega) (fun j hj => by cases hj; omega)))
 go_ret
 refine ⟨_,rfl,?_,hb4⟩
 have e : expD M = [UInt8.ofNat (48 + M / 100),UInt8.ofNat (48 + M / 10 % 10),UInt8.ofNat (48 + M % 10)] := by unfold expD; rw [if_neg (by omega),if_neg (by omega)]
 have hf := hB4
 unfold fmtL
 rw [← e] at hf
 generalize expD M = D at hf ⊢
 simpa using hf
set_option maxRecDepth 100000 in
set_option maxHeartbeats 2000000 in
theorem fmtE_0011 (B q b : Nat) (w : World) (g : Nat → UInt8) (M : Nat) (hM : M < 10) (hm1 : 1 ≤ M) (hB : Buf B w q 0 []) (_hq : b ≠ q)
  (hc : ∀ t,t < 1 → w.cell? ⟨b,t,none⟩ = some (.int .u8 ((g t).toNat : Int))) :
  Calls Tryz.prog 143 #[.slice (some ⟨q,0,none⟩) 0 24,.bool false,.slice (some ⟨b,0,none⟩) 32 32,.int .i64 (-(M : Int) + 1),.int .i64 1,.int .i64 0,.int .u8 101,.bool true] w fun e w' =>
   ∃ N,e = .returned (.slice (some ⟨q,0,none⟩) N 24) ∧ Buf B w' q N (fmtL false g 1 true M) ∧ Below B w w' := by
 have hx0 : -(M : Int) < 0 := by omega
 obtain ⟨hBq,hqw⟩ := hB.base
 have hb0 := Below.refl B w
 go_enter Tryz.func143,Tryz.ntmps143
 go_wp2_with (first
  | (at_builtin; refine wp_app _ rfl _ _ rfl B q _ _ [g 0] 1 _ rfl (Buf.alloc hB _) ⟨_,0,none⟩ rfl rfl (news_new _ _ _ (by first | rfl | (simp [Lib.byteCells]))) (by omega) ?_; intro w1 N1 hN1 hB1 hg1; have hb1 : Below B w w1 := (hb0.alloc (by have := hb0.size; omega) _).grown hg1 (by simp; have := hb0.size; omega) (fun j hj => by cases hj; omega))
  | (at_builtin; refine wp_app _ rfl _ _ rfl B q _ _ [101] 1 _ rfl (Buf.alloc hB1 _) ⟨_,0,none⟩ rfl rfl (news_new _ _ _ (by first | rfl | (simp [Lib.byteCells]))) (by have := hN1.out; omega) ?_; intro w2 N2 hN2 hB2 hg2; have hb2 : Below B w w2 := (hb1.alloc (by have := hb1.size; omega) _).grown hg2 (by simp; have := hb1.size; omega) (fun j hj => by cases hj; omega))
  | (at_builtin; refine wp_app _ rfl _ _ rfl B q _ _ [45] 1 _ rfl (Buf.alloc hB2 _) ⟨_,0,none⟩ rfl rfl (news_new _ _ _ (by first | rfl | (simp [Lib.byteCells]))) (by have := hN1.out; have := hN2.out; omega) ?_; intro w3 N3 hN3 hB3 hg3; have hb3 : Below B w w3 := (hb2.alloc (by have := hb2.size; omega) _).grown hg3 (by simp; have := hb2.size; omega) (fun j hj => by cases hj; omega))
  | (at_builtin; refine wp_app _ rfl _ _ rfl B q _ _ [48,UInt8.ofNat (48 + M)] 2 _ rfl (Buf.alloc hB3 _) ⟨_,0,none⟩ rfl rfl (news_new _ _ _ (by simp [Lib.byteCells]; omega)) (by have := hN1.out; have := hN2.out; have := hN3.out; omega) ?_; intro w4 N4 hN4 hB4 hg4; have hb4 : Below B w w4 := (hb3.alloc (by have := hb3.size; omega) _).grown hg4 (by simp; have := hb3.size; omega) (fun j hj => by cases hj; omega)))
 go_ret
 refine ⟨_,rfl,?_,hb4⟩
 have e : expD M = [48,UInt8.ofNat (48 + M)] := by unfold expD; rw [if_pos hM]
 have hf := hB4
 unfold fmtL
 rw [← e] at hf
 generalize expD M = D at hf ⊢
 simpa using hf
set_option maxRecDepth 100000 in
set_option maxHeartbeats 2000000 in
theorem fmtE_0012 (B q b : Nat) (w : World) (g : Nat → UInt8) (M : Nat) (hM0 : 10 ≤ M) (hM : M < 100) (hB : Buf B w q 0 []) (_hq : b ≠ q)
  (hc : ∀ t,t < 1 → w.cell? ⟨b,t,none⟩ = some (.int .u8 ((g t).toNat : Int))) :
  Calls Tryz.prog 143 #[.slice (some ⟨q,0,none⟩) 0 24,.bool false,.slice (some ⟨b,0,none⟩) 32 32,.int .i64 (-(M : Int) + 1),.int .i64 1,.int .i64 0,.int .u8 101,.bool true] w fun e w' =>
   ∃ N,e = .returned (.slice (some ⟨q,0,none⟩) N 24) ∧ Buf B w' q N (fmtL false g 1 true M) ∧ Below B w w' := by
 have hx0 : -(M : Int) < 0 := by omega
 have hM1 : decide ((M : Int) < 10) = false := by simp; omega
 obtain ⟨hBq,hqw⟩ := hB.base
 have hb0 := Below.refl B w
 go_enter Tryz.func143,Tryz.ntmps143
 go_wp2_with (first
  | (at_builtin; refine wp_app _ rfl _ _ rfl B q _ _ [g 0] 1 _ rfl (Buf.alloc hB _) ⟨_,0,none⟩ rfl rfl (news_new _ _ _ (by first | rfl | (simp [Lib.byteCells]))) (by omega) ?_; intro w1 N1 hN1 hB1 hg1; have hb1 : Below B w w1 := (hb0.alloc (by have := hb0.size; omega) _).grown hg1 (by simp; have := hb0.size; omega) (fun j hj => by cases hj; omega))
  | (at_builtin; refine wp_app _ rfl _ _ rfl B q _ _ [101] 1 _ rfl (Buf.alloc hB1 _) ⟨_,0,none⟩ rfl rfl (news_new _ _ _ (by first | rfl | (simp [Lib.byteCells]))) (by have := hN1.out; omega) ?_; intro w2 N2 hN2 hB2 hg2; have hb2 : Below B w w2 := (hb1.alloc (by have := hb1.size; omega) _).grown hg2 (by simp; have := hb1.size; omega) (fun j hj => by cases hj; omega))
  | (at_builtin; refine wp_app _ rfl _ _ rfl B q _ _ [45] 1 _ rfl (Buf.alloc hB2 _) ⟨_,0,none⟩ rfl rfl (news_new _ _ _ (by first | rfl | (simp [Lib.byteCells]))) (by have := hN1.out; have := hN2.out; omega) ?_; intro w3 N3 hN3 hB3 hg3; have hb3 : Below B w w3 := (hb2.alloc (by have := hb2.size; omega) _).grown hg3 (by simp; have := hb2.size; omega) (fun j hj => by cases hj; omega))
  | (at_builtin; refine wp_app _ rfl _ _ rfl B q _ _ [UInt8.ofNat (48 + M / 10),UInt8.ofNat (48 + M % 10)] 2 _ rfl (Buf.alloc hB3 _) ⟨_,0,none⟩ rfl rfl (news_new _ _ _ (by simp [Lib.byteCells]; omega)) (by have := hN1.out; have := hN2.out; have := hN3.out; omega) ?_; intro w4 N4 hN4 hB4 hg4; have hb4 : Below B w w4 := (hb3.alloc (by have := hb3.size; omega) _).grown hg4 (by simp; have := hb3.size; omega) (fun j hj => by cases hj; omega)))
 go_ret
 refine ⟨_,rfl,?_,hb4⟩
 have e : expD M = [UInt8.ofNat (48 + M / 10),UInt8.ofNat (48 + M % 10)] := by unfold expD; rw [if_neg (by omega),if_pos hM]
 have hf := hB4
 unfold fmtL
 rw [← e] at hf
 generalize expD M = D at hf ⊢
 simpa using hf
set_option maxRecDepth 100000 in
set_option maxHeartbeats 2000000 in
theorem fmtE_0013 (B q b : Nat) (w : World) (g : Nat → UInt8) (M : Nat) (hM0 : 100 ≤ M) (hM : M < 400) (hB : Buf B w q 0 []) (_hq : b ≠ q)
  (hc : ∀ t,t < 1 → w.cell? ⟨b,t,none⟩ = some (.int .u8 ((g t).toNat : Int))) :
  Calls Tryz.prog 143 #[.slice (some ⟨q,0,none⟩) 0 24,.bool false,.slice (some ⟨b,0,none⟩) 32 32,.int .i64 (-(M : Int) + 1),.int .i64 1,.int .i64 0,.int .u8 101,.bool true] w fun e w' =>
   ∃ N,e = .returned (.slice (some ⟨q,0,none⟩) N 24) ∧ Buf B w' q N (fmtL false g 1 true M) ∧ Below B w w' := by
 have hx0 : -(M : Int) < 0 := by omega
 have hM1 : decide ((M : Int) < 10) = false := by simp; omega
 have hM2 : decide ((M : Int) < 100) = false := by simp; omega
 obtain ⟨hBq,hqw⟩ := hB.base
 have hb0 := Below.refl B w
 go_enter Tryz.func143,Tryz.ntmps143
 go_wp2_with (first
  | (at_builtin; refine wp_app _ rfl _ _ rfl B q _ _ [g 0] 1 _ rfl (Buf.alloc hB _) ⟨_,0,none⟩ rfl rfl (news_new _ _ _ (by first | rfl | (simp [Lib.byteCells]))) (by omega) ?_; intro w1 N1 hN1 hB1 hg1; have hb1 : Below B w w1 := (hb0.alloc (by have := hb0.size; omega) _).grown hg1 (by simp; have := hb0.size; omega) (fun j hj => by cases hj; omega))
  | (at_builtin; refine wp_app _ rfl _ _ rfl B q _ _ [101] 1 _ rfl (Buf.alloc hB1 _) ⟨_,0,none⟩ rfl rfl (news_new _ _ _ (by first | rfl | (simp [Lib.byteCells]))) (by have := hN1.out; omega) ?_; intro w2 N2 hN2 hB2 hg2; have hb2 : Below B w w2 := (hb1.alloc (by have := hb1.size; omega) _).grown hg2 (by simp; have := hb1.size; omega) (fun j hj => by cases hj; omega))
  | (at_builtin; refine wp_app _ rfl _ _ rfl B q _ _ [45] 1 _ rfl (Buf.alloc hB2 _) ⟨_,0,none⟩ rfl rfl (news_new _ _ _ (by first | rfl | (simp [Lib.byteCells]))) (by have := hN1.out; have := hN2.out; omega) ?_; intro w3 N3 hN3 hB3 hg3; have hb3 : Below B w w3 := (hb2.alloc (by have := hb2.size; omega) _).grown hg3 (by simp; have := hb2.size; omega) (fun j hj => by cases hj; omega))
  | (at_builtin; refine wp_app _ rfl _ _ rfl B q _ _ [UInt8.ofNat (48 + M / 100),UInt8.ofNat (48 + M / 10 % 10),UInt8.ofNat (48 + M % 10)] 3 _ rfl (Buf.alloc hB3 _) ⟨_,0,none⟩ rfl rfl (news_new _ _ _ (by simp [Lib.byteCells]; omega)) (by have := hN1.out; have := hN2.out; have := hN3.out; omega) ?_; intro w4 N4 hN4 hB4 hg4; have hb4 : Below B w w4 := (hb3.alloc (by have := hb3.size; omega) _).grown hg4 (by simp; have := hb3.size; omega) (fun j hj => by cases hj; omega)))
 go_ret
 refine ⟨_,rfl,?_,hb4⟩
 have e : expD M = [UInt8.ofNat (48 + M / 100),UInt8.ofNat (48 + M / 10 % 10),UInt8.ofNat (48 + M % 10)] := by unfold expD; rw [if_neg (by omega),if_neg (by omega)]
 have hf := hB4
 unfold fmtL
 rw [← e] at hf
 generalize expD M = D at hf ⊢
 simpa using hf
set_option maxRecDepth 100000 in
set_option maxHeartbeats 2000000 in
set_option maxRecDepth 100000 in
set_option maxHeartbeats 2000000 in
theorem fmtE_0102 (B q b : Nat) (w : World) (g : Nat → UInt8) (k : Nat) (hk : k ≤ 15) (M : Nat) (hM0 : 10 ≤ M) (hM : M < 100) (hB : Buf B w q 0 []) (_hq : b ≠ q)
  (hc : ∀ t,t < (k + 2) → w.cell? ⟨b,t,none⟩ = some (.int .u8 ((g t).toNat : Int))) :
  Calls Tryz.prog 143 #[.slice (some ⟨q,0,none⟩) 0 24,.bool false,.slice (some ⟨b,0,none⟩) 32 32,.int .i64 ((M : Int) + 1),.int .i64 ((k : Int) + 2),.int .i64 ((k : Int) + 1),.int .u8 101,.bool true] w fun e w' =>
   ∃ N,e = .returned (.slice (some ⟨q,0,none⟩) N 24) ∧ Buf B w' q N (fmtL false g (k + 2) false M) ∧ Below B w w' := by
 have hk1 : ¬ ((k : Int) + 2 = 0) := by omega
 have hmin : min ((k : Int) + 2) ((k : Int) + 1 + 1) = (k : Int) + 2 := by omega
 have hzero : (k : Int) + 1 + 1 - ((k : Int) + 2) = 0 := by omega
 have hM1 : decide ((M : Int) < 10) = false := by simp; omega
 obtain ⟨hBq,hqw⟩ := hB.base
 have hb0 := Below.refl B w
 go_enter Tryz.func143,Tryz.ntmps143
 go_wp2_with (first
  | (at_builtin; refine wp_app _ rfl _ _ rfl B q _ _ [g 0] 1 _ rfl (Buf.alloc hB _) ⟨_,0,none⟩ rfl rfl (news_new _ _ _ (by first | rfl | (simp [Lib.byteCells]))) (by omega) ?_; intro w1 N1 hN1 hB1 hg1; have hb1 : Below B w w1 := (hb0.alloc (by have := hb0.size; omega) _).grown hg1 (by simp; have := hb0.size; omega) (fun j hj => by cases hj; omega); have hc1 : ∀ t,t < (k + 2) → w1.cell? ⟨b,t,none⟩ = some (.int .u8 ((g t).toNat : Int)) := fun t ht => cell_grown hg1 _hq (cell_alloc (hc t ht)))
  | (at_builtin; refine wp_app _ rfl _ _ rfl B q _ _ [46] 1 _ rfl (Buf.alloc hB1 _) ⟨_,0,none⟩ rfl rfl (news_new _ _ _ (by first | rfl | (simp [Lib.byteCells]))) (by have := hN1.out; omega) ?_; intro w2 N2 hN2 hB2 hg2; have hb2 : Below B w w2 := (hb1.alloc (by have := hb1.size; omega) _).grown hg2 (by simp; have := hb1.size; omega) (fun j hj => by cases hj; omega); have hc2 : ∀ t,t < (k + 2) → w2.cell? ⟨b,t,none⟩ = some (.int .u8 ((g t).toNat : Int)) := fun t ht => cell_grown hg2 _hq (cell_alloc (hc1 t ht)))
  | (at_builtin; refine wp_app _ rfl _ _ rfl B q _ _ (moreD g (k + 2)) _ _ rfl hB2 ⟨b,1,none⟩ (by simp [moreD]) rfl (more_cells b _ g (k + 2) hc2) (by have := hN1.out; have := hN2.out; omega) ?_; intro w3 N3 hN3 hB3 hg3; have hb3 : Below B w w3 := hb2.grown hg3 (by have := hb2.size; omega) (fun j hj => by cases hj; omega)))
 refine wp_loop_rounds 1 ?_
 rw [rounds_succ]
 go_wp2_with (first
  | (at_builtin; refine wp_app _ rfl _ _ rfl B q _ _ [101] 1 _ rfl (Buf.alloc hB3 _) ⟨_,0,none⟩ rfl rfl (news_new _ _ _ (by first | rfl | (simp [Lib.byteCells]))) (by have := hN1.out; have := hN2.out; have := hN3.out; omega) ?_; intro w4 N4 hN4 hB4 hg4; have hb4 : Below B w w4 := (hb3.alloc (by have := hb3.size; omega) _).grown hg4 (by simp; have := hb3.size; omega) (fun j hj => by cases hj; omega))
  | (at_builtin; refine wp_app _ rfl _ _ rfl B q _ _ [43] 1 _ rfl (Buf.alloc hB4 _) ⟨_,0,none⟩ rfl rfl (news_new _ _ _ (by first | rfl | (simp [Lib.byteCells]))) (by have := hN1.out; have := hN2.out; have := hN3.out; have := hN4.out; omega) ?_; intro w5 N5 hN5 hB5 hg5; have hb5 : Below B w w5 := (hb4.alloc (by have := hb4.size; omega) _).grown hg5 (by simp; have := hb4.size; omega) (fun j hj => by cases hj; omega))
  | (at_builtin; refine wp_app _ rfl _ _ rfl B q _ _ [UInt8.ofNat (48 + M / 10),UInt8.ofNat (48 + M % 10)] 2 _ rfl (Buf.alloc hB5 _) ⟨_,0,none⟩ rfl rfl (news_new _ _ _ (by simp [Lib.byteCells]; omega)) (by have := hN1.out; have := hN2.out; have := hN3.out; have := hN4.out; have := hN5.out; omega) ?_; intro w6 N6 hN6 hB6 hg6; have hb6 : Below B w w6 := (hb5.alloc (by have := hb5.size; omega) _).grown hg6 (by simp; have := hb5.size; omega) (fun j hj => by cases hj; omega)))
 go_ret
 refine ⟨_,rfl,?_,hb6⟩
 have e : expD M = [UInt8.ofNat (48 + M / 10),UInt8.ofNat (48 + M % 10)] := by unfold expD; rw [if_neg (by omega),if_pos hM]
 have hf := hB6
 unfold fmtL
 rw [← e] at hf
 generalize expD M = D at hf ⊢
 simpa using hf
set_option maxRecDepth 100000 in
set_option maxHeartbeats 2000000 in
theorem fmtE_0103 (B q b : Nat) (w : World) (g : Nat → UInt8) (k : Nat) (hk : k ≤ 15) (M : Nat) (hM0 : 100 ≤ M) (hM : M < 400) (hB : Buf B w q 0 []) (_hq : b ≠ q)
  (hc : ∀ t,t < (k + 2) → w.cell? ⟨b,t,none⟩ = some (.int .u8 ((g t).toNat : Int))) :
  Calls Tryz.prog 143 #[.slice (some ⟨q,0,none⟩) 0 24,.bool false,.slice (some ⟨b,0,none⟩) 32 32,.int .i64 ((M : Int) + 1),.int .i64 ((k : Int) + 2),.int .i64 ((k : Int) + 1),.int .u8 101,.bool true] w fun e w' =>
   ∃ N,e = .returned (.slice (some ⟨q,0,none⟩) N 24) ∧ Buf B w' q N (fmtL false g (k + 2) false M) ∧ Below B w w' := by
 have hk1 : ¬ ((k : Int) + 2 = 0) := by omega
 have hmin : min ((k : Int) + 2) ((k : Int) + 1 + 1) = (k : Int) + 2 := by omega
 have hzero : (k : Int) + 1 + 1 - ((k : Int) + 2) = 0 := by omega
 have hM1 : decide ((M : Int) < 10) = false := by simp; omega
 have hM2 : decide ((M : Int) < 100) = false := by simp; omega
 obtain ⟨hBq,hqw⟩ := hB.base
 have hb0 := Below.refl B w
 go_enter Tryz.func143,Tryz.ntmps143
 go_wp2_with (first
  | (at_builtin; refine wp_app _ rfl _ _ rfl B q _ _ [g 0] 1 _ rfl (Buf.alloc hB _) ⟨_,0,none⟩ rfl rfl (news_new _ _ _ (by first | rfl | (simp [Lib.byteCells]))) (by omega) ?_; intro w1 N1 hN1 hB1 hg1; have hb1 : Below B w w1 := (hb0.alloc (by have := hb0.size; omega) _).grown hg1 (by simp; have := hb0.size; omega) (fun j hj => by cases hj; omega); have hc1 : ∀ t,t < (k + 2) → w1.cell? ⟨b,t,none⟩ = some (.int .u8 ((g t).toNat : Int)) := fun t ht => cell_grown hg1 _hq (cell_alloc (hc t ht)))
  | (at_builtin; refine wp_app _ rfl _ _ rfl B q _ _ [46] 1 _ rfl (Buf.alloc hB1 _) ⟨_,0,none⟩ rfl rfl (news_new _ _ _ (by first | rfl | (simp [Lib.byteCells]))) (by have := hN1.out; omega) ?_; intro w2 N2 hN2 hB2 hg2; have hb2 : Below B w w2 := (hb1.alloc (by have := hb1.size; omega) _).grown hg2 (by simp; have := hb1.size; omega) (fun j hj => by cases hj; omega); have hc2 : ∀ t,t < (k + 2) → w2.cell? ⟨b,t,none⟩ = some (.int .u8 ((g t).toNat : Int)) := fun t ht => cell_grown hg2 _hq (cell_alloc (hc1 t ht)))
  | (at_builtin; refine wp_app _ rfl _ _ rfl B q _ _ (moreD g (k + 2)) _ _ rfl hB2 ⟨b,1,none⟩ (by simp [moreD]) rfl (more_cells b _ g (k + 2) hc2) (by have := hN1.out; have := hN2.out; omega) ?_; intro w3 N3 hN3 hB3 hg3; have hb3 : Below B w w3 := hb2.grown hg3 (by have := hb2.size; omega) (fun j hj => by cases hj; omega)))
 refine wp_loop_rounds 1 ?_
 rw [rounds_succ]
 go_wp2_with (first
  | (at_builtin; refine wp_app _ rfl _ _ rfl B q _ _ [101] 1 _ rfl (Buf.alloc hB3 _) ⟨_,0,none⟩ rfl rfl (news_new _ _ _ (by first | rfl | (simp [Lib.byteCells]))) (by have := hN1.out; have := hN2.out; have := hN3.out; omega) ?_; intro w4 N4 hN4 hB4 hg4; have hb4 : Below B w w4 := (hb3.alloc (by have := hb3.size; omega) _).grown hg4 (by simp; have := hb3.size; omega) (fun j hj => by cases hj; omega))
  | (at_builtin; refine wp_app _ rfl _ _ rfl B q _ _ [43] 1 _ rfl (Buf.alloc hB4 _) ⟨_,0,none⟩ rfl rfl (news_new _ _ _ (by first | rfl | (simp [Lib.byteCells]))) (by have := hN1.out; have := hN2.out; have := hN3.out; have := hN4.out; omega) ?_; intro w5 N5 hN5 hB5 hg5; have hb5 : Below B w w5 := (hb4.alloc (by have := hb4.size; omega) _).grown hg5 (by simp; have := hb4.size; omega) (fun j hj => by cases hj; omega))
  | (at_builtin; refine wp_app _ rfl _ _ rfl B q _ _ [UInt8.ofNat (48 + M / 100),UInt8.ofNat (48 + M / 10 % 10),UInt8.ofNat (48 + M % 10)] 3 _ rfl (Buf.alloc hB5 _) ⟨_,0,none⟩ rfl rfl (news_new _ _ _ (by simp [Lib.byteCells]; omega)) (by have := hN1.out; have := hN2.out; have := hN3.out; have := hN4.out; have := hN5.out; omega) ?_; intro w6 N6 hN6 hB6 hg6; have hb6 : Below B w w6 := (hb5.alloc (by have := hb5.size; omega) _).grown hg6 (by simp; have := hb5.size; omega) (fun j hj => by cases hj; omega)))
 go_ret
 refine ⟨_,rfl,?_,hb6⟩
 have e : expD M = [UInt8.ofNat (48 + M / 100),UInt8.ofNat (48 + M / 10 % 10),UInt8.ofNat (48 + M % 10)] := by unfold expD; rw [if_neg (by omega),if_neg (by omega)]
 have hf := hB6
 unfold fmtL
 rw [← e] at hf
 generalize expD M = D at hf ⊢
 simpa using hf
set_option maxRecDepth 100000 in
set_option maxHeartbeats 2000000 in
theorem fmtE_0111 (B q b : Nat) (w : World) (g : Nat → UInt8) (k : Nat) (hk : k ≤ 15) (M : Nat) (hM : M < 10) (hm1 : 1 ≤ M) (hB : Buf B w q 0 []) (_hq : b ≠ q)
  (hc : ∀ t,t < (k + 2) → w.cell? ⟨b,t,none⟩ = some (.int .u8 ((g t).toNat : Int))) :
  Calls Tryz.prog 143 #[.slice (some ⟨q,0,none⟩) 0 24,.bool false,.slice (some ⟨b,0,none⟩) 32 32,.int .i64 (-(M : Int) + 1),.int .i64 ((k : Int) + 2),.int .i64 ((k : Int) + 1),.int .u8 101,.bool true] w fun e w' =>
   ∃ N,e = .returned (.slice (some ⟨q,0,none⟩) N 24) ∧ Buf B w' q N (fmtL false g (k + 2) true M) ∧ Below B w w' := by
 have hk1 : ¬ ((k : Int) + 2 = 0) := by omega
 have hmin : min ((k : Int) + 2) ((k : Int) + 1 + 1) = (k : Int) + 2 := by omega
 have hzero : (k : Int) + 1 + 1 - ((k : Int) + 2) = 0 := by omega
 have hx0 : -(M : Int) < 0 := by omega
 obtain ⟨hBq,hqw⟩ := hB.base
 have hb0 := Below.refl B w
 go_enter Tryz.func143,Tryz.ntmps143
 go_wp2_with (first
  | (at_builtin; refine wp_app _ rfl _ _ rfl B q _ _ [g 0] 1 _ rfl (Buf.alloc hB _) ⟨_,0,none⟩ rfl rfl (news_new _ _ _ (by first | rfl | (simp [Lib.byteCells]))) (by omega) ?_; intro w1 N1 hN1 hB1 hg1; have hb1 : Below B w w1 := (hb0.alloc (by have := hb0.size; omega) _).grown hg1 (by simp; have := hb0.size; omega) (fun j hj => by cases hj; omega); have hc1 : ∀ t,t < (k + 2) → w1.cell? ⟨b,t,none⟩ = some (.int .u8 ((g t).toNat : Int)) := fun t ht => cell_grown hg1 _hq (cell_alloc (hc t ht)))
  | (at_builtin; refine wp_app _ rfl _ _ rfl B q _ _ [46] 1 _ rfl (Buf.alloc hB1 _) ⟨_,0,none⟩ rfl rfl (news_new _ _ _ (by first | rfl | (simp [Lib.byteCells]))) (by have := hN1.out; omega) ?_; intro w2 N2 hN2 hB2 hg2; have hb2 : Below B w w2 := (hb1.alloc (by have := hb1.size; omega) _).grown hg2 (by simp; have := hb1.size; omega) (fun j hj => by cases hj; omega); have hc2 : ∀ t,t < (k + 2) → w2.cell? ⟨b,t,none⟩ = some (.int .u8 ((g t).toNat : Int)) := fun t ht => cell_grown hg2 _hq (cell_alloc (hc1 t ht)))
  | (at_builtin; refine wp_app _ rfl _ _ rfl B q _ _ (moreD g (k + 2)) _ _ rfl hB2 ⟨b,1,none⟩ (by simp [moreD]) rfl (more_cells b _ g (k + 2) hc2) (by have := hN1.out; have := hN2.out; omega) ?_; intro w3 N3 hN3 hB3 hg3; have hb3 : Below B w w3 := hb2.grown hg3 (by have := hb2.size; omega) (fun j hj => by cases hj; omega)))
 refine wp_loop_rounds 1 ?_
 rw [rounds_succ]
 go_wp2_with (first
  | (at_builtin; refine wp_app _ rfl _ _ rfl B q _ _ [101] 1 _ rfl (Buf.alloc hB3 _) ⟨_,0,none⟩ rfl rfl (news_new _ _ _ (by first | rfl | (simp [Lib.byteCells]))) (by have := hN1.out; have := hN2.out; have := hN3.out; omega) ?_; intro w4 N4 hN4 hB4 hg4; have hb4 : Below B w w4 := (hb3.alloc (by have := hb3.size; omega) _).grown hg4 (by simp; have := hb3.size; omega) (fun j hj => by cases hj; omega))
  | (at_builtin; refine wp_app _ rfl _ _ rfl B q _ _ [45] 1 _ rfl (Buf.alloc hB4 _) ⟨_,0,none⟩ rfl rfl (news_new _ _ _ (by first | rfl | (simp [Lib.byteCells]))) (by have := hN1.out; have := hN2.out; have := hN3.out; have := hN4.out; omega) ?_; intro w5 N5 hN5 hB5 hg5; have hb5 : Below B w w5 := (hb4.alloc (by have := hb4.size; omega) _).grown hg5 (by simp; have := hb4.size; omega) (fun j hj => by cases hj; omega))
  | (at_builtin; refine wp_app _ rfl _ _ rfl B q _ _ [48,UInt8.ofNat (48 + M)] 2 _ rfl (Buf.alloc hB5 _) ⟨_,0,none⟩ rfl rfl (news_new _ _ _ (by simp [Lib.byteCells]; omega)) (by have := hN1.out; have := hN2.out; have := hN3.out; have := hN4.out; have := hN5.out; omega) ?_; intro w6 N6 hN6 hB6 hg6; have hb6 : Below B w w6 := (hb5.alloc (by have := hb5.size; omega) _).grown hg6 (by simp; have := hb5.size; omega) (fun j hj => by cases hj; omega)))
 go_ret
 refine ⟨_,rfl,?_,hb6⟩
 have e : expD M = [48,UInt8.ofNat (48 + M)] := by unfold expD; rw [if_pos hM]
 have hf := hB6
 unfold fmtL
 rw [← e] at hf
 generalize expD M = D at hf ⊢
 simpa using hf
set_option maxRecDepth 100000 in
set_option maxHeartbeats 2000000 in
theorem fmtE_0112 (B q b : Nat) (w : World) (g : Nat → UInt8) (k : Nat) (hk : k ≤ 15) (M : Nat) (hM0 : 10 ≤ M) (hM : M < 100) (hB : Buf B w q 0 []) (_hq : b ≠ q)
  (hc : ∀ t,t < (k + 2) → w.cell? ⟨b,t,none⟩ = some (.int .u8 ((g t).toNat : Int))) :
  Calls Tryz.prog 143 #[.slice (some ⟨q,0,none⟩) 0 24,.bool false,.slice (some ⟨b,0,none⟩) 32 32,.int .i64 (-(M : Int) + 1),.int .i64 ((k : Int) + 2),.int .i64 ((k : Int) + 1),.int .u8 101,.bool true] w fun e w' =>
   ∃ N,e = .returned (.slice (some ⟨q,0,none⟩) N 24) ∧ Buf B w' q N (fmtL false g (k + 2) true M) ∧ Below B w w' := by
 have hk1 : ¬ ((k : Int) + 2 = 0) := by omega
 have hmin : min ((k : Int) + 2) ((k : Int) + 1 + 1) = (k : Int) + 2 := by omega
 have hzero : (k : Int) + 1 + 1 - ((k : Int) + 2) = 0 := by omega
 have hx0 : -(M : Int) < 0 := by omega
 have hM1 : decide ((M : Int) < 10) = false := by simp; omega
 obtain ⟨hBq,hqw⟩ := hB.base
 have hb0 := Below.refl B w
 go_enter Tryz.func143,Tryz.ntmps143
 go_wp2_with (first
  | (at_builtin; refine wp_app _ rfl _ _ rfl B q _ _ [g 0] 1 _ rfl (Buf.alloc hB _) ⟨_,0,none⟩ rfl rfl (news_new _ _ _ (by first | rfl | (simp [Lib.byteCells]))) (by omega) ?_; intro w1 N1 hN1 hB1 hg1; have hb1 : Below B w w1 := (hb0.alloc (by have := hb0.size; omega) _).grown hg1 (by simp; have := hb0.size; omega) (fun j hj => by cases hj; omega); have hc1 : ∀ t,t < (k + 2) → w1.cell? ⟨b,t,none⟩ = some (.int .u8 ((g t).toNat : Int)) := fun t ht => cell_grown hg1 _hq (cell_alloc (hc t ht)))
  | (at_builtin; refine wp_app _ rfl _ _ rfl B q _ _ [46] 1 _ rfl (Buf.alloc hB1 _) ⟨_,0,none⟩ rfl rfl (news_new _ _ _ (by first | rfl | (simp [Lib.byteCells]))) (by have := hN1.out; omega) ?_; intro w2 N2 hN2 hB2 hg2; have hb2 : Below B w w2 := (hb1.alloc (by have := hb1.size; omega) _).grown hg2 (by simp; have := hb1.size; omega) (fun j hj => by cases hj; omega); have hc2 : ∀ t,t < (k + 2) → w2.cell? ⟨b,t,none⟩ = some (.int .u8 ((g t).toNat : Int)) := fun t ht => cell_grown hg2 _hq (cell_alloc (hc1 t ht)))
  | (at_builtin; refine wp_app _ rfl _ _ rfl B q _ _ (moreD g (k + 2)) _ _ rfl hB2 ⟨b,1,none⟩ (by simp [moreD]) rfl (more_cells b _ g (k + 2) hc2) (by have := hN1.out; have := hN2.out; omega) ?_; intro w3 N3 hN3 hB3 hg3; have hb3 : Below B w w3 := hb2.grown hg3 (by have := hb2.size; omega) (fun j hj => by cases hj; omega)))
 refine wp_loop_rounds 1 ?_
 rw [rounds_succ]
 go_wp2_with (first
  | (at_builtin; refine wp_app _ rfl _ _ rfl B q _ _ [101] 1 _ rfl (Buf.alloc hB3 _) ⟨_,0,none⟩ rfl rfl (news_new _ _ _ (by first | rfl | (simp [Lib.byteCells]))) (by have := hN1.out; have := hN2.out; have := hN3.out; omega) ?_; intro w4 N4 hN4 hB4 hg4; have hb4 : Below B w w4 := (hb3.alloc (by have := hb3.size; omega) _).grown hg4 (by simp; have := hb3.size; omega) (fun j hj => by cases hj; omega))
  | (at_builtin; refine wp_app _ rfl _ _ rfl B q _ _ [45] 1 _ rfl (Buf.alloc hB4 _) ⟨_,0,none⟩ rfl rfl (news_new _ _ _ (by first | rfl | (simp [Lib.byteCells]))) (by have := hN1.out; have := hN2.out; have := hN3.out; have := hN4.out; omega) ?_; intro w5 N5 hN5 hB5 hg5; have hb5 : Below B w w5 := (hb4.alloc (by have := hb4.size; omega) _).grown hg5 (by simp; have := hb4.size; omega) (fun j hj => by cases hj; omega))
  | (at_builtin; refine wp_app _ rfl _ _ rfl B q _ _ [UInt8.ofNat (48 + M / 10),UInt8.ofNat (48 + M % 10)] 2 _ rfl (Buf.alloc hB5 _) ⟨_,0,none⟩ rfl rfl (news_new _ _ _ (by simp [Lib.byteCells]; omega)) (by have := hN1.out; have := hN2.out; have := hN3.out; have := hN4.out; have := hN5.out; omega) ?_; intro w6 N6 hN6 hB6 hg6; have hb6 : Below B w w6 := (hb5.alloc (by have := hb5.size; omega) _).grown hg6 (by simp; have := hb5.size; omega) (fun j hj => by cases hj; omega)))
 go_ret
 refine ⟨_,rfl,?_,hb6⟩
 have e : expD M = [UInt8.ofNat (48 + M / 10),UInt8.ofNat (48 + M % 10)] := by unfold expD; rw [if_neg (by omega),if_pos hM]
 have hf := hB6
 unfold fmtL
 rw [← e] at hf
 generalize expD M = D at hf ⊢
 simpa using hf
set_option maxRecDepth 100000 in
set_option maxHeartbeats 2000000 in
theorem fmtE_0113 (B q b : Nat) (w : World) (g : Nat → UInt8) (k : Nat) (hk : k ≤ 15) (M : Nat) (hM0 : 100 ≤ M) (hM : M < 400) (hB : Buf B w q 0 []) (_hq : b ≠ q)
  (hc : ∀ t,t < (k + 2) → w.cell? ⟨b,t,none⟩ = some (.int .u8 ((g t).toNat : Int))) :
  Calls Tryz.prog 143 #[.slice (some ⟨q,0,none⟩) 0 24,.bool false,.slice (some ⟨b,0,none⟩) 32 32,.int .i64 (-(M : Int) + 1),.int .i64 ((k : Int) + 2),.int .i64 ((k : Int) + 1),.int .u8 101,.bool true] w fun e w' =>
   ∃ N,e = .returned (.slice (some ⟨q,0,none⟩) N 24) ∧ Buf B w' q N (fmtL false g (k + 2) true M) ∧ Below B w w' := by
 have hk1 : ¬ ((k : Int) + 2 = 0) := by omega
 have hmin : min ((k : Int) + 2) ((k : Int) + 1 + 1) = (k : Int) + 2 := by omega
 have hzero : (k : Int) + 1 + 1 - ((k : Int) + 2) = 0 := by omega
 have hx0 : -(M : Int) < 0 := by omega
 have hM1 : decide ((M : Int) < 10) = false := by simp; omega
 have hM2 : decide ((M : Int) < 100) = false := by simp; omega
 obtain ⟨hBq,hqw⟩ := hB.base
 have hb0 := Below.refl B w
 go_enter Tryz.func143,Tryz.ntmps143
 go_wp2_with (first
  | (at_builtin; refine wp_app _ rfl _ _ rfl B q _ _ [g 0] 1 _ rfl (Buf.alloc hB _) ⟨_,0,none⟩ rfl rfl (news_new _ _ _ (by first | rfl | (simp [Lib.byteCells]))) (by omega) ?_; intro w1 N1 hN1 hB1 hg1; have hb1 : Below B w w1 := (hb0.alloc (by have := hb0.size; omega) _).grown hg1 (by simp; have := hb0.size; omega) (fun j hj => by cases hj; omega); have hc1 : ∀ t,t < (k + 2) → w1.cell? ⟨b,t,none⟩ = some (.int .u8 ((g t).toNat : Int)) := fun t ht => cell_grown hg1 _hq (cell_alloc (hc t ht)))
  | (at_builtin; refine wp_app _ rfl _ _ rfl B q _ _ [46] 1 _ rfl (Buf.alloc hB1 _) ⟨_,0,none⟩ rfl rfl (news_new _ _ _ (by first | rfl | (simp [Lib.byteCells]))) (by have := hN1.out; omega) ?_; intro w2 N2 hN2 hB2 hg2; have hb2 : Below B w w2 := (hb1.alloc (by have := hb1.size; omega) _).grown hg2 (by simp; have := hb1.size; omega) (fun j hj => by cases hj; omega); have hc2 : ∀ t,t < (k + 2) → w2.cell? ⟨b,t,none⟩ = some (.int .u8 ((g t).toNat : Int)) := fun t ht => cell_grown hg2 _hq (cell_alloc (hc1 t ht)))
  | (at_builtin; refine wp_app _ rfl _ _ rfl B q _ _ (moreD g (k + 2)) _ _ rfl hB2 ⟨b,1,none⟩ (by simp [moreD]) rfl (more_cells b _ g (k + 2) hc2) (by have := hN1.out; have := hN2.out; omega) ?_; intro w3 N3 hN3 hB3 hg3; have hb3 : Below B w w3 := hb2.grown hg3 (by have := hb2.size; omega) (fun j hj => by cases hj; omega)))
 refine wp_loop_rounds 1 ?_
 rw [rounds_succ]
 go_wp2_with (first
  | (at_builtin; refine wp_app _ rfl _ _ rfl B q _ _ [101] 1 _ rfl (Buf.alloc hB3 _) ⟨_,0,none⟩ rfl rfl (news_new _ _ _ (by first | rfl | (simp [Lib.byteCells]))) (by have := hN1.out; have := hN2.out; have := hN3.out; omega) ?_; intro w4 N4 hN4 hB4 hg4; have hb4 : Below B w w4 := (hb3.alloc (by have := hb3.size; omega) _).grown hg4 (by simp; have := hb3.size; omega) (fun j hj => by cases hj; omega))
  | (at_builtin; refine wp_app _ rfl _ _ rfl B q _ _ [45] 1 _ rfl (Buf.alloc hB4 _) ⟨_,0,none⟩ rfl rfl (news_new _ _ _ (by first | rfl | (simp [Lib.byteCells]))) (by have := hN1.out; have := hN2.out; have := hN3.out; have := hN4.out; omega) ?_; intro w5 N5 hN5 hB5 hg5; have hb5 : Below B w w5 := (hb4.alloc (by have := hb4.size; omega) _).grown hg5 (by simp; have := hb4.size; omega) (fun j hj => by cases hj; omega))
  | (at_builtin; refine wp_app _ rfl _ _ rfl B q _ _ [UInt8.ofNat (48 + M / 100),UInt8.ofNat (48 + M / 10 % 10),UInt8.ofNat (48 + M % 10)] 3 _ rfl (Buf.alloc hB5 _) ⟨_,0,none⟩ rfl rfl (news_new _ _ _ (by simp [Lib.byteCells]; omega)) (by have := hN1.out; have := hN2.out; have := hN3.out; have := hN4.out; have := hN5.out; omega) ?_; intro w6 N6 hN6 hB6 hg6; have hb6 : Below B w w6 := (hb5.alloc (by have := hb5.size; omega) _).grown hg6 (by simp; have := hb5.size; omega) (fun j hj => by cases hj; omega)))
 go_ret
 refine ⟨_,rfl,?_,hb6⟩
 have e : expD M = [UInt8.ofNat (48 + M / 100),UInt8.ofNat (48 + M / 10 % 10),UInt8.ofNat (48 + M % 10)] := by unfold expD; rw [if_neg (by omega),if_neg (by omega)]
 have hf := hB6
 unfold fmtL
 rw [← e] at hf
 generalize expD M = D at hf ⊢
 simpa using hf
set_option maxRecDepth 100000 in
set_option maxHeartbeats 2000000 in
theorem fmtE_1001 (B q b : Nat) (w : World) (g : Nat → UInt8) (M : Nat) (hM : M < 10) (hB : Buf B w q 0 []) (_hq : b ≠ q)
  (hc : ∀ t,t < 1 → w.cell? ⟨b,t,none⟩ = some (.int .u8 ((g t).toNat : Int))) :
  Calls Tryz.prog 143 #[.slice (some ⟨q,0,none⟩) 0 24,.bool true,.slice (some ⟨b,0,none⟩) 32 32,.int .i64 ((M : Int) + 1),.int .i64 1,.int .i64 0,.int .u8 101,.bool true] w fun e w' =>
   ∃ N,e = .returned (.slice (some ⟨q,0,none⟩) N 24) ∧ Buf B w' q N (fmtL true g 1 false M) ∧ Below B w w' := by
 obtain ⟨hBq,hqw⟩ := hB.base
 have hb0 := Below.refl B w
 go_enter Tryz.func143,Tryz.ntmps143
 go_wp2_with (first
  | (at_builtin; refine wp_app _ rfl _ _ rfl B q _ _ [45] 1 _ rfl (Buf.alloc hB _) ⟨_,0,none⟩ rfl rfl (news_new _ _ _ (by first | rfl | (simp [Lib.byteCells]))) (by omega) ?_; intro w1 N1 hN1 hB1 hg1; have hb1 : Below B w w1 := (hb0.alloc (by have := hb0.size; omega) _).grown hg1 (by simp; have := hb0.size; omega) (fun j hj => by cases hj; omega); have hc1 : ∀ t,t < 1 → w1.cell? ⟨b,t,none⟩ = some (.int .u8 ((g t).toNat : Int)) := fun t ht => cell_grown hg1 _hq (cell_alloc (hc t ht)))
  | (at_builtin; refine wp_app _ rfl _ _ rfl B q _ _ [g 0] 1 _ rfl (Buf.alloc hB1 _) ⟨_,0,none⟩ rfl rfl (news_new _ _ _ (by first | rfl | (simp [Lib.byteCells]))) (by have := hN1.out; omega) ?_; intro w2 N2 hN2 hB2 hg2; have hb2 : Below B w w2 := (hb1.alloc (by have := hb1.size; omega) _).grown hg2 (by simp; have := hb1.size; omega) (fun j hj => by cases hj; omega))
  | (at_builtin; refine wp_app _ rfl _ _ rfl B q _ _ [101] 1 _ rfl (Buf.alloc hB2 _) ⟨_,0,none⟩ rfl rfl (news_new _ _ _ (by first | rfl | (simp [Lib.byteCells]))) (by have := hN1.out; have := hN2.out; omega) ?_; intro w3 N3 hN3 hB3 hg3; have hb3 : Below B w w3 := (hb2.alloc (by have := hb2.size; omega) _).grown hg3 (by simp; have := hb2.size; omega) (fun j hj => by cases hj; omega))
  | (at_builtin; refine wp_app _ rfl _ _ rfl B q _ _ [43] 1 _ rfl (Buf.alloc hB3 _) ⟨_,0,none⟩ rfl rfl (news_new _ _ _ (by first | rfl | (simp [Lib.byteCells]))) (by have := hN1.out; have := hN2.out; have := hN3.out; omega) ?_; intro w4 N4 hN4 hB4 hg4; have hb4 : Below B w w4 := (hb3.alloc (by have := hb3.size; omega) _).grown hg4 (by simp; have := hb3.size; omega) (fun j hj => by cases hj; omega))
  | (at_builtin; refine wp_app _ rfl _ _ rfl B q _ _ [48,UInt8.ofNat (48 + M)] 2 _ rfl (Buf.alloc hB4 _) ⟨_,0,none⟩ rfl rfl (news_new _ _ _ (by simp [Lib.byteCells]; omega)) (by have := hN1.out; have := hN2.out; have := hN3.out; have := hN4.out; omega) ?_; intro w5 N5 hN5 hB5 hg5; have hb5 : Below B w w5 := (hb4.alloc (by have := hb4.size; omega) _).grown hg5 (by simp; have := hb4.size; omega) (fun j hj => by cases hj; omega)))
 go_ret
 refine ⟨_,rfl,?_,hb5⟩
 have e : expD M = [48,UInt8.ofNat (48 + M)] := by unfold expD; rw [if_pos hM]
 have hf := hB5
 unfold fmtL
 rw [← e] at hf
 generalize expD M = D at hf ⊢
 simpa using hf
set_option maxRecDepth 100000 in
set_option maxHeartbeats 2000000 in
theorem fmtE_1002 (B q b : Nat) (w : World) (g : Nat → UInt8) (M : Nat) (hM0 : 10 ≤ M) (hM : M < 100) (hB : Buf B w q 0 []) (_hq : b ≠ q)
  (hc : ∀ t,t < 1 → w.cell? ⟨b,t,none⟩ = some (.int .u8 ((g t).toNat : Int))) :
  Calls Tryz.prog 143 #[.slice (some ⟨q,0,none⟩) 0 24,.bool true,.slice (some ⟨b,0,none⟩) 32 32,.int .i64 ((M : Int) + 1),.int .i64 1,.int .i64 0,.int .u8 101,.bool true] w fun e w' =>
   ∃ N,e = .returned (.slice (some ⟨q,0,none⟩) N 24) ∧ Buf B w' q N (fmtL true g 1 false M) ∧ Below B w w' := by
 have hM1 : decide ((M : Int) < 10) = false := by simp; omega
 obtain ⟨hBq,hqw⟩ := hB.base
 have hb0 := Below.refl B w
 go_enter Tryz.func143,Tryz.ntmps143
 go_wp2_with (first
  | (at_builtin; refine wp_app _ rfl _ _ rfl B q _ _ [45] 1 _ rfl (Buf.alloc hB _) ⟨_,0,none⟩ rfl rfl (news_new _ _ _ (by first | rfl | (simp [Lib.byteCells]))) (by omega) ?_; intro w1 N1 hN1 hB1 hg1; have hb1 : Below B w w1 := (hb0.alloc (by have := hb0.size; omega) _).grown hg1 (by simp; have := hb0.size; omega) (fun j hj => by cases hj; omega); have hc1 : ∀ t,t < 1 → w1.cell? ⟨b,t,none⟩ = some (.int .u8 ((g t).toNat : Int)) := fun t ht => cell_grown hg1 _hq (cell_alloc (hc t ht)))
  | (at_builtin; refine wp_app _ rfl _ _ rfl B q _ _ [g 0] 1 _ rfl (Buf.alloc hB1 _) ⟨_,0,none⟩ rfl rfl (news_new _ _ _ (by first | rfl | (simp [Lib.byteCells]))) (by have := hN1.out; omega) ?_; intro w2 N2 hN2 hB2 hg2; have hb2 : Below B w w2 := (hb1.alloc (by have := hb1.size; omega) _).grown hg2 (by simp; have := hb1.size; omega) (fun j hj => by cases hj; omega))
  | (at_builtin; refine wp_app _ rfl _ _ rfl B q _ _ [101] 1 _ rfl (Buf.alloc hB2 _) ⟨_,0,none⟩ rfl rfl (news_new _ _ _ (by first | rfl | (simp [Lib.byteCells]))) (by have := hN1.out; have := hN2.out; omega) ?_; intro w3 N3 hN3 hB3 hg3; have hb3 : Below B w w3 := (hb2.alloc (by have := hb2.size; omega) _).grown hg3 (by simp; have := hb2.size; omega) (fun j hj => by cases hj; omega))
  | (at_builtin; refine wp_app _ rfl _ _ rfl B q _ _ [43] 1 _ rfl (Buf.alloc hB3 _) ⟨_,0,none⟩ rfl rfl (news_new _ _ _ (by first | rfl | (simp [Lib.byteCells]))) (by have := hN1.out; have := hN2.out; have := hN3.out; omega) ?_; intro w4 N4 hN4 hB4 hg4; have hb4 : Below B w w4 := (hb3.alloc (by have := hb3.size; omega) _).grown hg4 (by simp; have := hb3.size; omega) (fun j hj => by cases hj; omega))
  | (at_builtin; refine wp_app _ rfl _ _ rfl B q _ _ [UInt8.ofNat (48 + M / 10),UInt8.ofNat (48 + M % 10)] 2 _ rfl (Buf.alloc hB4 _) ⟨_,0,none⟩ rfl rfl (news_new _ _ _ (by simp [Lib.byteCells]; omega)) (by have := hN1.out; have := hN2.out; have := hN3.out; have := hN4.out; omega) ?_; intro w5 N5 hN5 hB5 hg5; have hb5 : Below B w w5 := (hb4.alloc (by have := hb4.size; omega) _).grown hg5 (by simp; have := hb4.size; omega) (fun j hj => by cases hj; omega)))
 go_ret
 refine ⟨_,rfl,?_,hb5⟩
 have e : expD M = [UInt8.ofNat (48 + M / 10),UInt8.ofNat (48 + M % 10)] := by unfold expD; rw [if_neg (by omega),if_pos hM]
 have hf := hB5
 unfold fmtL
 rw [← e] at hf
 generalize expD M = D at hf ⊢
 simpa using hf
set_option maxRecDepth 100000 in
set_option maxHeartbeats 2000000 in
theorem fmtE_1003 (B q b : Nat) (w : World) (g : Nat → UInt8) (M : Nat) (hM0 : 100 ≤ M) (hM : M < 400) (hB : Buf B w q 0 []) (_hq : b ≠ q)
  (hc : ∀ t,t < 1 → w.cell? ⟨b,t,none⟩ = some (.int .u8 ((g t).toNat : Int))) :
  Calls Tryz.prog 143 #[.slice (some ⟨q,0,none⟩) 0 24,.bool true,.slice (some ⟨b,0,none⟩) 32 32,.int .i64 ((M : Int) + 1),.int .i64 1,.int .i64 0,.int .u8 101,.bool true] w fun e w' =>
   ∃ N,e = .returned (.slice (some ⟨q,0,none⟩) N 24) ∧ Buf B w' q N (fmtL true g 1 false M) ∧ Below B w w' := by
 have hM1 : decide ((M : Int) < 10) = false := by simp; omega
 have hM2 : decide ((M : Int) < 100) = false := by simp; omega
 obtain ⟨hBq,hqw⟩ := hB.base
 have hb0 := Below.refl B w
 go_enter Tryz.func143,Tryz.ntmps143
 go_wp2_with (first
  | (at_builtin; refine wp_app _ rfl _ _ rfl B q _ _ [45] 1 _ rfl (Buf.alloc hB _) ⟨_,0,none⟩ rfl rfl (news_new _ _ _ (by first | rfl | (simp [Lib.byteCells]))) (by omega) ?_; intro w1 N1 hN1 hB1 hg1; have hb1 : Below B w w1 := (hb0.alloc (by have := hb0.size; omega) _).grown hg1 (by simp; have := hb0.size; omega) (fun j hj => by cases hj; omega); have hc1 : ∀ t,t < 1 → w1.cell? ⟨b,t,none⟩ = some (.int .u8 ((g t).toNat : Int)) := fun t ht => cell_grown hg1 _hq (cell_alloc (hc t ht)))
  | (at_builtin; refine wp_app _ rfl _ _ rfl B q _ _ [g 0] 1 _ rfl (Buf.alloc hB1 _) ⟨_,0,none⟩ rfl rfl (news_new _ _ _ (by first | rfl | (simp [Lib.byteCells]))) (by have := hN1.out; omega) ?_; intro w2 N2 hN2 hB2 hg2; have hb2 : Below B w w2 := (hb1.alloc (by have := hb1.size; omega) _).grown hg2 (by simp; have := hb1.size; omega) (fun j hj => by cases hj; omega))
  | (at_builtin; refine wp_app _ rfl _ _ rfl B q _ _ [101] 1 _ rfl (Buf.alloc hB2 _) ⟨_,0,none⟩ rfl rfl (news_new _ _ _ (by first | rfl | (simp [Lib.byteCells]))) (by have := hN1.out; have := hN2.out; omega) ?_; intro w3 N3 hN3 hB3 hg3; have hb3 : Below B w w3 := (hb2.alloc (by have := hb2.size; omega) _).grown hg3 (by simp; have := hb2.size; omega) (fun j hj => by cases hj; omega))
  | (at_builtin; refine wp_app _ rfl _ _ rfl B q _ _ [43] 1 _ rfl (Buf.alloc hB3 _) ⟨_,0,none⟩ rfl rfl (news_new _ _ _ (by first | rfl | (simp [Lib.byteCells]))) (by have := hN1.out; have := hN2.out; have := hN3.out; omega) ?_; intro w4 N4 hN4 hB4 hg4; have hb4 : Below B w w4 := (hb3.alloc (by have := hb3.size; omega) _).grown hg4 (by simp; have := hb3.size; omega) (fun j hj => by cases hj; omega))
  | (at_builtin; refine wp_app _ rfl _ _ rfl B q _ _ [UInt8.ofNat (48 + M / 100),UInt8.ofNat (48 + M / 10 % 10),UInt8.ofNat (48 + M % 10)] 3 _ rfl (Buf.alloc hB4 _) ⟨_,0,none⟩ rfl rfl (news_new _ _ _ (by simp [Lib.byteCells]; omega)) (by have := hN1.out; have := hN2.out; have := hN3.out; have := hN4.out; omega) ?_; intro w5 N5 hN5 hB5 hg5; have hb5 : Below B w w5 := (hb4.alloc (by have := hb4.size; omega) _).grown hg5 (by simp; have := hb4.size; omega) (fun j hj => by cases hj; omega)))
 go_ret
 refine ⟨_,rfl,?_,hb5⟩
 have e : expD M = [UInt8.ofNat (48 + M / 100),UInt8.ofNat (48 + M / 10 % 10),UInt8.ofNat (48 + M % 10)] := by unfold expD; rw [if_neg (by omega),if_neg (by omega)]
 have hf := hB5
 unfold fmtL
 rw [← e] at hf
 generalize expD M = D at hf ⊢
 simpa using hf
set_option maxRecDepth 100000 in
set_option maxHeartbeats 2000000 in
theorem fmtE_1011 (B q b : Nat) (w : World) (g : Nat → UInt8) (M : Nat) (hM : M < 10) (hm1 : 1 ≤ M) (hB : Buf B w q 0 []) (_hq : b ≠ q)
  (hc : ∀ t,t < 1 → w.cell? ⟨b,t,none⟩ = some (.int .u8 ((g t).toNat : Int))) :
  Calls Tryz.prog 143 #[.slice (some ⟨q,0,none⟩) 0 24,.bool true,.slice (some ⟨b,0,none⟩) 32 32,.int .i64 (-(M : Int) + 1),.int .i64 1,.int .i64 0,.int .u8 101,.bool true] w fun e w' =>
   ∃ N,e = .returned (.slice (some ⟨q,0,none⟩) N 24) ∧ Buf B w' q N (fmtL true g 1 true M) ∧ Below B w w' := by
 have hx0 : -(M : Int) < 0 := by omega
 obtain ⟨hBq,hqw⟩ := hB.base
 have hb0 := Below.refl B w
 go_enter Tryz.func143,Tryz.ntmps143
 go_wp2_with (first
  | (at_builtin; refine wp_app _ rfl _ _ rfl B q _ _ [45] 1 _ rfl (Buf.alloc hB _) ⟨_,0,none⟩ rfl rfl (news_new _ _ _ (by first | rfl | (simp [Lib.byteCells]))) (by omega) ?_; intro w1 N1 hN1 hB1 hg1; have hb1 : Below B w w1 := (hb0.alloc (by have := hb0.size; omega) _).grown hg1 (by simp; have := hb0.size; omega) (fun j hj => by cases hj; omega); have hc1 : ∀ t,t < 1 → w1.cell? ⟨b,t,none⟩ = some (.int .u8 ((g t).toNat : Int)) := fun t ht => cell_grown hg1 _hq (cell_alloc (hc t ht)))
  | (at_builtin; refine wp_app _ rfl _ _ rfl B q _ _ [g 0] 1 _ rfl (Buf.alloc hB1 _) ⟨_,0,none⟩ rfl rfl (news_new _ _ _ (by first | rfl | (simp [Lib.byteCells]))) (by have := hN1.out; omega) ?_; intro w2 N2 hN2 hB2 hg2; have hb2 : Below B w w2 := (hb1.alloc (by have := hb1.size; omega) _).grown hg2 (by simp; have := hb1.size; omega) (fun j hj => by cases hj; omega))
  | (at_builtin; refine wp_app _ rfl _ _ rfl B q _ _ [101] 1 _ rfl (Buf.alloc hB2 _) ⟨_,0,none⟩ rfl rfl (news_new _ _ _ (by first | rfl | (simp [Lib.byteCells]))) (by have := hN1.out; have := hN2.out; omega) ?_; intro w3 N3 hN3 hB3 hg3; have hb3 : Below B w w3 := (hb2.alloc (by have := hb2.size; omega) _).grown hg3 (by simp; have := hb2.size; omega) (fun j hj => by cases hj; omega))
  | (at_builtin; refine wp_app _ rfl _ _ rfl B q _ _ [45] 1 _ rfl (Buf.alloc hB3 _) ⟨_,0,none⟩ rfl rfl (news_new _ _ _ (by first | rfl | (simp [Lib.byteCells]))) (by have := hN1.out; have := hN2.out; have := hN3.out; omega) ?_; intro w4 N4 hN4 hB4 hg4; have hb4 : Below B w w4 := (hb3.alloc (by have := hb3.size; omega) _).grown hg4 (by simp; have := hb3.size; omega) (fun j hj => by cases hj; omega))
  | (at_builtin; refine wp_app _ rfl _ _ rfl B q _ _ [48,UInt8.ofNat (48 + M)] 2 _ rfl (Buf.alloc hB4 _) ⟨_,0,none⟩ rfl rfl (news_new _ _ _ (by simp [Lib.byteCells]; omega)) (by have := hN1.out; have := hN2.out; have := hN3.out; have := hN4.out; omega) ?_; intro w5 N5 hN5 hB5 hg5; have hb5 : Below B w w5 := (hb4.alloc (by have := hb4.size; omega) _).grown hg5 (by simp; have := hb4.size; omega) (fun j hj => by cases hj; omega)))
 go_ret
 refine ⟨_,rfl,?_,hb5⟩
 have e : expD M = [48,UInt8.ofNat (48 + M)] := by unfold expD; rw [if_pos hM]
 have hf := hB5
 unfold fmtL
 rw [← e] at hf
 generalize expD M = D at hf ⊢
 simpa using hf
set_option maxRecDepth 100000 in
set_option maxHeartbeats 2000000 in
theorem fmtE_1012 (B q b : Nat) (w : World) (g : Nat → UInt8) (M : Nat) (hM0 : 10 ≤ M) (hM : M < 100) (hB : Buf B w q 0 []) (_hq : b ≠ q)
  (hc : ∀ t,t < 1 → w.cell? ⟨b,t,none⟩ = some (.int .u8 ((g t).toNat : Int))) :
  Calls Tryz.prog 143 #[.slice (some ⟨q,0,none⟩) 0 24,.bool true,.slice (some ⟨b,0,none⟩) 32 32,.int .i64 (-(M : Int) + 1),.int .i64 1,.int .i64 0,.int .u8 101,.bool true] w fun e w' =>
   ∃ N,e = .returned (.slice (some ⟨q,0,none⟩) N 24) ∧ Buf B w' q N (fmtL true g 1 true M) ∧ Below B w w' := by
 have hx0 : -(M : Int) < 0 := by omega
 have hM1 : decide ((M : Int) < 10) = false := by simp; omega
 obtain ⟨hBq,hqw⟩ := hB.base
 have hb0 := Below.refl B w
 go_enter Tryz.func143,Tryz.ntmps143
 go_wp2_with (first
  | (at_builtin; refine wp_app _ rfl _ _ rfl B q _ _ [45] 1 _ rfl (Buf.alloc hB _) ⟨_,0,none⟩ rfl rfl (news_new _ _ _ (by first | rfl | (simp [Lib.byteCells]))) (by omega) ?_; intro w1 N1 hN1 hB1 hg1; have hb1 : Below B w w1 := (hb0.alloc (by have := hb0.size; omega) _).grown hg1 (by simp; have := hb0.size; omega) (fun j hj => by cases hj; omega); have hc1 : ∀ t,t < 1 → w1.cell? ⟨b,t,none⟩ = some (.int .u8 ((g t).toNat : Int)) := fun t ht => cell_grown hg1 _hq (cell_alloc (hc t ht)))
  | (at_builtin; refine wp_app _ rfl _ _ rfl B q _ _ [g 0] 1 _ rfl (Buf.alloc hB1 _) ⟨_,0,none⟩ rfl rfl (news_new _ _ _ (by first | rfl | (simp [Lib.byteCells]))) (by have := hN1.out; omega) ?_; intro w2 N2 hN2 hB2 hg2; have hb2 : Below B w w2 := (hb1.alloc (by have := hb1.size; omega) _).grown hg2 (by simp; have := hb1.size; omega) (fun j hj => by cases hj; omega))
  | (at_builtin; refine wp_app _ rfl _ _ rfl B q _ _ [101] 1 _ rfl (Buf.alloc hB2 _) ⟨_,0,none⟩ rfl rfl (news_new _ _ _ (by first | rfl | (simp [Lib.byteCells]))) (by have := hN1.out; have := hN2.out; omega) ?_; intro w3 N3 hN3 hB3 hg3; have hb3 : Below B w w3 := (hb2.alloc (by have := hb2.size; omega) _).grown hg3 (by simp; have := hb2.size; omega) (fun j hj => by cases hj; omega))
  | (at_builtin; refine wp_app _ rfl _ _ rfl B q _ _ [45] 1 _ rfl (Buf.alloc hB3 _) ⟨_,0,none⟩ rfl rfl (news_new _ _ _ (by first | rfl | (simp [Lib.byteCells]))) (by have := hN1.out; have := hN2.out; have := hN3.out; omega) ?_; intro w4 N4 hN4 hB4 hg4; have hb4 : Below B w w4 := (hb3.alloc (by have := hb3.size; omega) _).grown hg4 (by simp; have := hb3.size; omega) (fun j hj => by cases hj; omega))
  | (at_builtin; refine wp_app _ rfl _ _ rfl B q _ _ [UInt8.ofNat (48 + M / 10),UInt8.ofNat (48 + M % 10)] 2 _ rfl (Buf.alloc hB4 _) ⟨_,0,none⟩ rfl rfl (news_new _ _ _ (by simp [Lib.byteCells]; omega)) (by have := hN1.out; have := hN2.out; have := hN3.out; have := hN4.out; omega) ?_; intro w5 N5 hN5 hB5 hg5; have hb5 : Below B w w5 := (hb4.alloc (by have := hb4.size; omega) _).grown hg5 (by simp; have := hb4.size; omega) (fun j hj => by cases hj; omega)))
 go_ret
 refine ⟨_,rfl,?_,hb5⟩
 have e : expD M = [UInt8.ofNat (48 + M / 10),UInt8.ofNat (48 + M % 10)] := by unfold expD; rw [if_neg (by omega),if_pos hM]
 have hf := hB5
 unfold fmtL
 rw [← e] at hf
 generalize expD M = D at hf ⊢
 simpa using hf
set_option maxRecDepth 100000 in
set_option maxHeartbeats 2000000 in
theorem fmtE_1013 (B q b : Nat) (w : World) (g : Nat → UInt8) (M : Nat) (hM0 : 100 ≤ M) (hM : M < 400) (hB : Buf B w q 0 []) (_hq : b ≠ q)
  (hc : ∀ t,t < 1 → w.cell? ⟨b,t,none⟩ = some (.int .u8 ((g t).toNat : Int))) :
  Calls Tryz.prog 143 #[.slice (some ⟨q,0,none⟩) 0 24,.bool true,.slice (some ⟨b,0,none⟩) 32 32,.int .i64 (-(M : Int) + 1),.int .i64 1,.int .i64 0,.int .u8 101,.bool true] w fun e w' =>
   ∃ N,e = .returned (.slice (some ⟨q,0,none⟩) N 24) ∧ Buf B w' q N (fmtL true g 1 true M) ∧ Below B w w' := by
 have hx0 : -(M : Int) < 0 := by omega
 have hM1 : decide ((M : Int) < 10) = false := by simp; omega
 have hM2 : decide ((M : Int) < 100) = false := by simp; omega
 obtain ⟨hBq,hqw⟩ := hB.base
 have hb0 := Below.refl B w
 go_enter Tryz.func143,Tryz.ntmps143
 go_wp2_with (first
  | (at_builtin; refine wp_app _ rfl _ _ rfl B q _ _ [45] 1 _ rfl (Buf.alloc hB _) ⟨_,0,none⟩ rfl rfl (news_new _ _ _ (by first | rfl | (simp [Lib.byteCells]))) (by omega) ?_; intro w1 N1 hN1 hB1 hg1; have hb1 : Below B w w1 := (hb0.alloc (by have := hb0.size; omega) _).grown hg1 (by simp; have := hb0.size; omega) (fun j hj => by cases hj; omega); have hc1 : ∀ t,t < 1 → w1.cell? ⟨b,t,none⟩ = some (.int .u8 ((g t).toNat : Int)) := fun t ht => cell_grown hg1 _hq (cell_alloc (hc t ht)))
  | (at_builtin; refine wp_app _ rfl _ _ rfl B q _ _ [g 0] 1 _ rfl (Buf.alloc hB1 _) ⟨_,0,none⟩ rfl rfl (news_new _ _ _ (by first | rfl | (simp [Lib.byteCells]))) (by have := hN1.out; omega) ?_; intro w2 N2 hN2 hB2 hg2; have hb2 : Below B w w2 := (hb1.alloc (by have := hb1.size; omega) _).grown hg2 (by simp; have := hb1.size; omega) (fun j hj => by cases hj; omega))
  | (at_builtin; refine wp_app _ rfl _ _ rfl B q _ _ [101] 1 _ rfl (Buf.alloc hB2 _) ⟨_,0,none⟩ rfl rfl (news_new _ _ _ (by first | rfl | (simp [Lib.byteCells]))) (by have := hN1.out; have := hN2.out; omega) ?_; intro w3 N3 hN3 hB3 hg3; have hb3 : Below B w w3 := (hb2.alloc (by have := hb2.size; omega) _).grown hg3 (by simp; have := hb2.size; omega) (fun j hj => by cases hj; omega))
  | (at_builtin; refine wp_app _ rfl _ _ rfl B q _ _ [45] 1 _ rfl (Buf.alloc hB3 _) ⟨_,0,none⟩ rfl rfl (news_new _ _ _ (by first | rfl | (simp [Lib.byteCells]))) (by have := hN1.out; have := hN2.out; have := hN3.out; omega) ?_; intro w4 N4 hN4 hB4 hg4; have hb4 : Below B w w4 := (hb3.alloc (by have := hb3.size; omega) _).grown hg4 (by simp; have := hb3.size; omega) (fun j hj => by cases hj; omega))
  | (at_builtin; refine wp_app _ rfl _ _ rfl B q _ _ [UInt8.ofNat (48 + M / 100),UInt8.ofNat (48 + M / 10 % 10),UInt8.ofNat (48 + M % 10)] 3 _ rfl (Buf.alloc hB4 _) ⟨_,0,none⟩ rfl rfl (news_new _ _ _ (by simp [Lib.byteCells]; omega)) (by have := hN1.out; have := hN2.out; have := hN3.out; have := hN4.out; omega) ?_; intro w5 N5 hN5 hB5 hg5; have hb5 : Below B w w5 := (hb4.alloc (by have := hb4.size; omega) _).grown hg5 (by simp; have := hb4.size; omega) (fun j hj => by cases hj; omega)))
 go_ret
 refine ⟨_,rfl,?_,hb5⟩
 have e : expD M = [UInt8.ofNat (48 + M / 100),UInt8.ofNat (48 + M / 10 % 10),UInt8.ofNat (48 + M % 10)] := by unfold expD; rw [if_neg (by omega),if_neg (by omega)]
 have hf := hB5
 unfold fmtL
 rw [← e] at hf
 generalize expD M = D at hf ⊢
 simpa using hf
set_option maxRecDepth 100000 in
set_option maxHeartbeats 2000000 in
theorem fmtE_1101 (B q b : Nat) (w : World) (g : Nat → UInt8) (k : Nat) (hk : k ≤ 15) (M : Nat) (hM : M < 10) (hB : Buf B w q 0 []) (_hq : b ≠ q)
  (hc : ∀ t,t < (k + 2) → w.cell? ⟨b,t,none⟩ = some (.int .u8 ((g t).toNat : Int))) :
  Calls Tryz.prog 143 #[.slice (some ⟨q,0,none⟩) 0 24,.bool true,.slice (some ⟨b,0,none⟩) 32 32,.int .i64 ((M : Int) + 1),.int .i64 ((k : Int) + 2),.int .i64 ((k : Int) + 1),.int .u8 101,.bool true] w fun e w' =>
   ∃ N,e = .returned (.slice (some ⟨q,0,none⟩) N 24) ∧ Buf B w' q N (fmtL true g (k + 2) false M) ∧ Below B w w' := by
 have hk1 : ¬ ((k : Int) + 2 = 0) := by omega
 have hmin : min ((k : Int) + 2) ((k : Int) + 1 + 1) = (k : Int) + 2 := by omega
 have hzero : (k : Int) + 1 + 1 - ((k : Int) + 2) = 0 := by omega
 obtain ⟨hBq,hqw⟩ := hB.base
 have hb0 := Below.refl B w
 go_enter Tryz.func143,Tryz.ntmps143
 go_wp2_with (first
  | (at_builtin; refine wp_app _ rfl _ _ rfl B q _ _ [45] 1 _ rfl (Buf.alloc hB _) ⟨_,0,none⟩ rfl rfl (news_new _ _ _ (by first | rfl | (simp [Lib.byteCells]))) (by omega) ?_; intro w1 N1 hN1 hB1 hg1; have hb1 : Below B w w1 := (hb0.alloc (by have := hb0.size; omega) _).grown hg1 (by simp; have := hb0.size; omega) (fun j hj => by cases hj; omega); have hc1 : ∀ t,t < (k + 2) → w1.cell? ⟨b,t,none⟩ = some (.int .u8 ((g t).toNat : Int)) := fun t ht => cell_grown hg1 _hq (cell_alloc (hc t ht)))
  | (at_builtin; refine wp_app _ rfl _ _ rfl B q _ _ [g 0] 1 _ rfl (Buf.alloc hB1 _) ⟨_,0,none⟩ rfl rfl (news_new _ _ _ (by first | rfl | (simp [Lib.byteCells]))) (by have := hN1.out; omega) ?_; intro w2 N2 hN2 hB2 hg2; have hb2 : Below B w w2 := (hb1.alloc (by have := hb1.size; omega) _).grown hg2 (by simp; have := hb1.size; omega) (fun j hj => by cases hj; omega); have hc2 : ∀ t,t < (k + 2) → w2.cell? ⟨b,t,none⟩ = some (.int .u8 ((g t).toNat : Int)) := fun t ht => cell_grown hg2 _hq (cell_alloc (hc1 t ht)))
  | (at_builtin; refine wp_app _ rfl _ _ rfl B q _ _ [46] 1 _ rfl (Buf.alloc hB2 _) ⟨_,0,none⟩ rfl rfl (news_new _ _ _ (by first | rfl | (simp [Lib.byteCells]))) (by have := hN1.out; have := hN2.out; omega) ?_; intro w3 N3 hN3 hB3 hg3; have hb3 : Below B w w3 := (hb2.alloc (by have := hb2.size; omega) _).grown hg3 (by simp; have := hb2.size; omega) (fun j hj => by cases hj; omega); have hc3 : ∀ t,t < (k + 2) → w3.cell? ⟨b,t,none⟩ = some (.int .u8 ((g t).toNat : Int)) := fun t ht => cell_grown hg3 _hq (cell_alloc (hc2 t ht)))
  | (at_builtin; refine wp_app _ rfl _ _ rfl B q _ _ (moreD g (k + 2)) _ _ rfl hB3 ⟨b,1,none⟩ (by simp [moreD]) rfl (more_cells b _ g (k + 2) hc3) (by have := hN1.out; have := hN2.out; have := hN3.out; omega) ?_; intro w4 N4 hN4 hB4 hg4; have hb4 : Below B w w4 := hb3.grown hg4 (by have := hb3.size; omega) (fun j hj => by cases hj; omega)))
 refine wp_loop_rounds 1 ?_
 rw [rounds_succ]
 go_wp2_with (first
  | (at_builtin; refine wp_app _ rfl _ _ rfl B q _ _ [101] 1 _ rfl (Buf.alloc hB4 _) ⟨_,0,none⟩ rfl rfl (news_new _ _ _ (by first | rfl | (simp [Lib.byteCells]))) (by have := hN1.out; have := hN2.out; have := hN3.out; have := hN4.out; omega) ?_; intro w5 N5 hN5 hB5 hg5; have hb5 : Below B w w5 := (hb4.alloc (by have := hb4.size; omega) _).grown hg5 (by simp; have := hb4.size; omega) (fun j hj => by cases hj; omega))
  | (at_builtin; refine wp_app _ rfl _ _ rfl B q _ _ [43] 1 _ rfl (Buf.alloc hB5 _) ⟨_,0,none⟩ rfl rfl (news_new _ _ _ (by first | rfl | (simp [Lib.byteCells]))) (by have := hN1.out; have := hN2.out; have := hN3.out; have := hN4.out; have := hN5.out; omega) ?_; intro w6 N6 hN6 hB6 hg6; have hb6 : Below B w w6 := (hb5.alloc (by have := hb5.size; omega) _).grown hg6 (by simp; have := hb5.size; omega) (fun j hj => by cases hj; omega))
  | (at_builtin; refine wp_app _ rfl _ _ rfl B q _ _ [48,UInt8.ofNat (48 + M)] 2 _ rfl (Buf.alloc hB6 _) ⟨_,0,none⟩ rfl rfl (news_new _ _ _ (by simp [Lib.byteCells]; omega)) (by have := hN1.out; have := hN2.out; have := hN3.out; have := hN4.out; have := hN5.out; have := hN6.out; omega) ?_; intro w7 N7 hN7 hB7 hg7; have hb7 : Below B w w7 := (hb6.alloc (by have := hb6.size; omega) _).grown hg7 (by simp; have := hb6.size; omega) (fun j hj => by cases hj; omega)))
 go_ret
 refine ⟨_,rfl,?_,hb7⟩
 have e : expD M = [48,UInt8.ofNat (48 + M)] := by unfold expD; rw [if_pos hM]
 have hf := hB7
 unfold fmtL
 rw [← e] at hf
 generalize expD M = D at hf ⊢
 simpa using hf
set_option maxRecDepth 100000 in
set_option maxHeartbeats 2000000 in
theorem fmtE_1102 (B q b : Nat) (w : World) (g : Nat → UInt8) (k : Nat) (hk : k ≤ 15) (M : Nat) (hM0 : 10 ≤ M) (hM : M < 100) (hB : Buf B w q 0 []) (_hq : b ≠ q)
  (hc : ∀ t,t < (k + 2) → w.cell? ⟨b,t,none⟩ = some (.int .u8 ((g t).toNat : Int))) :
  Calls Tryz.prog 143 #[.slice (some ⟨q,0,none⟩) 0 24,.bool true,.slice (some ⟨b,0,none⟩) 32 32,.int .i64 ((M : Int) + 1),.int .i64 ((k : Int) + 2),.int .i64 ((k : Int) + 1),.int .u8 101,.bool true] w fun e w' =>
   ∃ N,e = .returned (.slice (some ⟨q,0,none⟩) N 24) ∧ Buf B w' q N (fmtL true g (k + 2) false M) ∧ Below B w w' := by
 have hk1 : ¬ ((k : Int) + 2 = 0) := by omega
 have hmin : min ((k : Int) + 2) ((k : Int) + 1 + 1) = (k : Int) + 2 := by omega
 have hzero : (k : Int) + 1 + 1 - ((k : Int) + 2) = 0 := by omega
 have hM1 : decide ((M : Int) < 10) = false := by simp; omega
 obtain ⟨hBq,hqw⟩ := hB.base
 have hb0 := Below.refl B w
 go_enter Tryz.func143,Tryz.ntmps143
 go_wp2_with (first
  | (at_builtin; refine wp_app _ rfl _ _ rfl B q _ _ [45] 1 _ rfl (Buf.alloc hB _) ⟨_,0,none⟩ rfl rfl (news_new _ _ _ (by first | rfl | (simp [Lib.byteCells]))) (by omega) ?_; intro w1 N1 hN1 hB1 hg1; have hb1 : Below B w w1 := (hb0.alloc (by have := hb0.size; omega) _).grown hg1 (by simp; have := hb0.size; omega) (fun j hj => by cases hj; omega); have hc1 : ∀ t,t < (k + 2) → w1.cell? ⟨b,t,none⟩ = some (.int .u8 ((g t).toNat : Int)) := fun t ht => cell_grown hg1 _hq (cell_alloc (hc t ht)))
  | (at_builtin; refine wp_app _ rfl _ _ rfl B q _ _ [g 0] 1 _ rfl (Buf.alloc hB1 _) ⟨_,0,none⟩ rfl rfl (news_new _ _ _ (by first | rfl | (simp [Lib.byteCells]))) (by have := hN1.out; omega) ?_; intro w2 N2 hN2 hB2 hg2; have hb2 : Below B w w2 := (hb1.alloc (by have := hb1.size; omega) _).grown hg2 (by simp; have := hb1.size; omega) (fun j hj => by cases hj; omega); have hc2 : ∀ t,t < (k + 2) → w2.cell? ⟨b,t,none⟩ = some (.int .u8 ((g t).toNat : Int)) := fun t ht => cell_grown hg2 _hq (cell_alloc (hc1 t ht)))
  | (at_builtin; refine wp_app _ rfl _ _ rfl B q _ _ [46] 1 _ rfl (Buf.alloc hB2 _) ⟨_,0,none⟩ rfl rfl (news_new _ _ _ (by first | rfl | (simp [Lib.byteCells]))) (by have := hN1.out; have := hN2.out; omega) ?_; intro w3 N3 hN3 hB3 hg3; have hb3 : Below B w w3 := (hb2.alloc (by have := hb2.size; omega) _).grown hg3 (by simp; have := hb2.size; omega) (fun j hj => by cases hj; omega); have hc3 : ∀ t,t < (k + 2) → w3.cell? ⟨b,t,none⟩ = some (.int .u8 ((g t).toNat : Int)) := fun t ht => cell_grown hg3 _hq (cell_alloc (hc2 t ht)))
  | (at_builtin; refine wp_app _ rfl _ _ rfl B q _ _ (moreD g (k + 2)) _ _ rfl hB3 ⟨b,1,none⟩ (by simp [moreD]) rfl (more_cells b _ g (k + 2) hc3) (by have := hN1.out; have := hN2.out; have := hN3.out; omega) ?_; intro w4 N4 hN4 hB4 hg4; have hb4 : Below B w w4 := hb3.grown hg4 (by have := hb3.size; omega) (fun j hj => by cases hj; omega)))
 refine wp_loop_rounds 1 ?_
 rw [rounds_succ]
 go_wp2_with (first
  | (at_builtin; refine wp_app _ rfl _ _ rfl B q _ _ [101] 1 _ rfl (Buf.alloc hB4 _) ⟨_,0,none⟩ rfl rfl (news_new _ _ _ (by first | rfl | (simp [Lib.byteCells]))) (by have := hN1.out; have := hN2.out; have := hN3.out; have := hN4.out; omega) ?_; intro w5 N5 hN5 hB5 hg5; have hb5 : Below B w w5 := (hb4.alloc (by have := hb4.size; omega) _).grown hg5 (by simp; have := hb4.size; omega) (fun j hj => by cases hj; omega))
  | (at_builtin; refine wp_app _ rfl _ _ rfl B q _ _ [43] 1 _ rfl (Buf.alloc hB5 _) ⟨_,0,none⟩ rfl rfl (news_new _ _ _ (by first | rfl | (simp [Lib.byteCells]))) (by have := hN1.out; have := hN2.out; have := hN3.out; have := hN4.out; have := hN5.out; omega) ?_; intro w6 N6 hN6 hB6 hg6; have hb6 : Below B w w6 := (hb5.alloc (by have := hb5.size; omega) _).grown hg6 (by simp; have := hb5.size; omega) (fun j hj => by cases hj; omega))
  | (at_builtin; refine wp_app _ rfl _ _ rfl B q _ _ [UInt8.ofNat (48 + M / 10),UInt8.ofNat (48 + M % 10)] 2 _ rfl (Buf.alloc hB6 _) ⟨_,0,none⟩ rfl rfl (news_new _ _ _ (by simp [Lib.byteCells]; omega)) (by have := hN1.out; have := hN2.out; have := hN3.out; have := hN4.out; have := hN5.out; have := hN6.out; omega) ?_; intro w7 N7 hN7 hB7 hg7; have hb7 : Below B w w7 := (hb6.alloc (by have := hb6.size; omega) _).grown hg7 (by simp; have := hb6.size; omega) (fun j hj => by cases hj; omega)))
 go_ret
 refine ⟨_,rfl,?_,hb7⟩
 have e : expD M = [UInt8.ofNat (48 + M / 10),UInt8.ofNat (48 + M % 10)] := by unfold expD; rw [if_neg (by omega),if_pos hM]
 have hf := hB7
 unfold fmtL
 rw [← e] at hf
 generalize expD M = D at hf ⊢
 simpa using hf
set_option maxRecDepth 100000 in
set_option maxHeartbeats 2000000 in
theorem fmtE_1103 (B q b : Nat) (w : World) (g : Nat → UInt8) (k : Nat) (hk : k ≤ 15) (M : Nat) (hM0 : 100 ≤ M) (hM : M < 400) (hB : Buf B w q 0 []) (_hq : b ≠ q)
  (hc : ∀ t,t < (k + 2) → w.cell? ⟨b,t,none⟩ = some (.int .u8 ((g t).toNat : Int))) :
  Calls Tryz.prog 143 #[.slice (some ⟨q,0,none⟩) 0 24,.bool true,.slice (some ⟨b,0,none⟩) 32 32,.int .i64 ((M : Int) + 1),.int .i64 ((k : Int) + 2),.int .i64 ((k : Int) + 1),.int .u8 101,.bool true] w fun e w' =>
   ∃ N,e = .returned (.slice (some ⟨q,0,none⟩) N 24) ∧ Buf B w' q N (fmtL true g (k + 2) false M) ∧ Below B w w' := by
 have hk1 : ¬ ((k : Int) + 2 = 0) := by omega
 have hmin : min ((k : Int) + 2) ((k : Int) + 1 + 1) = (k : Int) + 2 := by omega
 have hzero : (k : Int) + 1 + 1 - ((k : Int) + 2) = 0 := by omega
 have hM1 : decide ((M : Int) < 10) = false := by simp; omega
 have hM2 : decide ((M : Int) < 100) = false := by simp; omega
 obtain ⟨hBq,hqw⟩ := hB.base
 have hb0 := Below.refl B w
 go_enter Tryz.func143,Tryz.ntmps143
 go_wp2_with (first
  | (at_builtin; refine wp_app _ rfl _ _ rfl B q _ _ [45] 1 _ rfl (Buf.alloc hB _) ⟨_,0,none⟩ rfl rfl (news_new _ _ _ (by first | rfl | (simp [Lib.byteCells]))) (by omega) ?_; intro w1 N1 hN1 hB1 hg1; have hb1 : Below B w w1 := (hb0.alloc (by have := hb0.size; omega) _).grown hg1 (by simp; have := hb0.size; omega) (fun j hj => by cases hj; omega); have hc1 : ∀ t,t < (k + 2) → w1.cell? ⟨b,t,none⟩ = some (.int .u8 ((g t).toNat : Int)) := fun t ht => cell_grown hg1 _hq (cell_alloc (hc t ht)))
  | (at_builtin; refine wp_app _ rfl _ _ rfl B q _ _ [g 0] 1 _ rfl (Buf.alloc hB1 _) ⟨_,0,none⟩ rfl rfl (news_new _ _ _ (by first | rfl | (simp [Lib.byteCells]))) (by have := hN1.out; omega) ?_; intro w2 N2 hN2 hB2 hg2; have hb2 : Below B w w2 := (hb1.alloc (by have := hb1.size; omega) _).grown hg2 (by simp; have := hb1.size; omega) (fun j hj => by cases hj; omega); have hc2 : ∀ t,t < (k + 2) → w2.cell? ⟨b,t,none⟩ = some (.int .u8 ((g t).toNat : Int)) := fun t ht => cell_grown hg2 _hq (cell_alloc (hc1 t ht)))
  | (at_builtin; refine wp_app _ rfl _ _ rfl B q _ _ [46] 1 _ rfl (Buf.alloc hB2 _) ⟨_,0,none⟩ rfl rfl (news_new _ _ _ (by first | rfl | (simp [Lib.byteCells]))) (by have := hN1.out; have := hN2.out; omega) ?_; intro w3 N3 hN3 hB3 hg3; have hb3 : Below B w w3 := (hb2.alloc (by have := hb2.size; omega) _).grown hg3 (by simp; have := hb2.size; omega) (fun j hj => by cases hj; omega); have hc3 : ∀ t,t < (k + 2) → w3.cell? ⟨b,t,none⟩ = some (.int .u8 ((g t).toNat : Int)) := fun t ht => cell_grown hg3 _hq (cell_alloc (hc2 t ht)))
  | (at_builtin; refine wp_app _ rfl _ _ rfl B q _ _ (moreD g (k + 2)) _ _ rfl hB3 ⟨b,1,none⟩ (by simp [moreD]) rfl (more_cells b _ g (k + 2) hc3) (by have := hN1.out; have := hN2.out; have := hN3.out; omega) ?_; intro w4 N4 hN4 hB4 hg4; have hb4 : Below B w w4 := hb3.grown hg4 (by have := hb3.size; omega) (fun j hj => by cases hj; omega)))
 refine wp_loop_rounds 1 ?_
 rw [rounds_succ]
 go_wp2_with (first
  | (at_builtin; refine wp_app _ rfl _ _ rfl B q _ _ [101] 1 _ rfl (Buf.alloc hB4 _) ⟨_,0,none⟩ rfl rfl (news_new _ _ _ (by first | rfl | (simp [Lib.byteCells]))) (by have := hN1.out; have := hN2.out; have := hN3.out; have := hN4.out; omega) ?_; intro w5 N5 hN5 hB5 hg5; have hb5 : Below B w w5 := (hb4.alloc (by have := hb4.size; omega) _).grown hg5 (by simp; have := hb4.size; omega) (fun j hj => by cases hj; omega))
  | (at_builtin; refine wp_app _ rfl _ _ rfl B q _ _ [43] 1 _ rfl (Buf.alloc hB5 _) ⟨_,0,none⟩ rfl rfl (news_new _ _ _ (by first | rfl | (simp [Lib.byteCells]))) (by have := hN1.out; have := hN2.out; have := hN3.out; have := hN4.out; have := hN5.out; omega) ?_; intro w6 N6 hN6 hB6 hg6; have hb6 : Below B w w6 := (hb5.alloc (by have := hb5.size; omega) _).grown hg6 (by simp; have := hb5.size; omega) (fun j hj => by cases hj; omega))
  | (at_builtin; refine wp_app _ rfl _ _ rfl B q _ _ [UInt8.ofNat (48 + M / 100),UInt8.ofNat (48 + M / 10 % 10),UInt8.ofNat (48 + M % 10)] 3 _ rfl (Buf.alloc hB6 _) ⟨_,0,none⟩ rfl rfl (news_new _ _ _ (by simp [Lib.byteCells]; omega)) (by have := hN1.out; have := hN2.out; have := hN3.out; have := hN4.out; have := hN5.out; have := hN6.out; omega) ?_; intro w7 N7 hN7 hB7 hg7; have hb7 : Below B w w7 := (hb6.alloc (by have := hb6.size; omega) _).grown hg7 (by simp; have := hb6.size; omega) (fun j hj => by cases hj; omega)))
 go_ret
 refine ⟨_,rfl,?_,hb7⟩
 have e : expD M = [UInt8.ofNat (48 + M / 100),UInt8.ofNat (48 + M / 10 % 10),UInt8.ofNat (48 + M % 10)] := by unfold expD; rw [if_neg (by omega),if_neg (by omega)]
 have hf := hB7
 unfold fmtL
 rw [← e] at hf
 generalize expD M = D at hf ⊢
 simpa using hf
set_option maxRecDepth 100000 in
set_option maxHeartbeats 2000000 in
theorem fmtE_1111 (B q b : Nat) (w : World) (g : Nat → UInt8) (k : Nat) (hk : k ≤ 15) (M : Nat) (hM : M < 10) (hm1 : 1 ≤ M) (hB : Buf B w q 0 []) (_hq : b ≠ q)
  (hc : ∀ t,t < (k + 2) → w.cell? ⟨b,t,none⟩ = some (.int .u8 ((g t).toNat : Int))) :
  Calls Tryz.prog 143 #[.slice (some ⟨q,0,none⟩) 0 24,.bool true,.slice (some ⟨b,0,none⟩) 32 32,.int .i64 (-(M : Int) + 1),.int .i64 ((k : Int) + 2),.int .i64 ((k : Int) + 1),.int .u8 101,.bool true] w fun e w' =>
   ∃ N,e = .returned (.slice (some ⟨q,0,none⟩) N 24) ∧ Buf B w' q N (fmtL true g (k + 2) true M) ∧ Below B w w' := by
 have hk1 : ¬ ((k : Int) + 2 = 0) := by omega
 have hmin : min ((k : Int) + 2) ((k : Int) + 1 + 1) = (k : Int) + 2 := by omega
 have hzero : (k : Int) + 1 + 1 - ((k : Int) + 2) = 0 := by omega
 have hx0 : -(M : Int) < 0 := by omega
 obtain ⟨hBq,hqw⟩ := hB.base
 have hb0 := Below.refl B w
 go_enter Tryz.func143,Tryz.ntmps143
 go_wp2_with (first
  | (at_builtin; refine wp_app _ rfl _ _ rfl B q _ _ [45] 1 _ rfl (Buf.alloc hB _) ⟨_,0,none⟩ rfl rfl (news_new _ _ _ (by first | rfl | (simp [Lib.byteCells]))) (by omega) ?_; intro w1 N1 hN1 hB1 hg1; have hb1 : Below B w w1 := (hb0.alloc (by have := hb0.size; omega) _).grown hg1 (by simp; have := hb0.size; omega) (fun j hj => by cases hj; omega); have hc1 : ∀ t,t < (k + 2) → w1.cell? ⟨b,t,none⟩ = some (.int .u8 ((g t).toNat : Int)) := fun t ht => cell_grown hg1 _hq (cell_alloc (hc t ht)))
  | (at_builtin; refine wp_app _ rfl _ _ rfl B q _ _ [g 0] 1 _ rfl (Buf.alloc hB1 _) ⟨_,0,none⟩ rfl rfl (news_new _ _ _ (by first | rfl | (simp [Lib.byteCells]))) (by have := hN1.out; omega) ?_; intro w2 N2 hN2 hB2 hg2; have hb2 : Below B w w2 := (hb1.alloc (by have := hb1.size; omega) _).grown hg2 (by simp; have := hb1.size; omega) (fun j hj => by cases hj; omega); have hc2 : ∀ t,t < (k + 2) → w2.cell? ⟨b,t,none⟩ = some (.int .u8 ((g t).toNat : Int)) := fun t ht => cell_grown hg2 _hq (cell_alloc (hc1 t ht)))
  | (at_builtin; refine wp_app _ rfl _ _ rfl B q _ _ [46] 1 _ rfl (Buf.alloc hB2 _) ⟨_,0,none⟩ rfl rfl (news_new _ _ _ (by first | rfl | (simp [Lib.byteCells]))) (by have := hN1.out; have := hN2.out; omega) ?_; intro w3 N3 hN3 hB3 hg3; have hb3 : Below B w w3 := (hb2.alloc (by have := hb2.size; omega) _).grown hg3 (by simp; have := hb2.size; omega) (fun j hj => by cases hj; omega); have hc3 : ∀ t,t < (k + 2) → w3.cell? ⟨b,t,none⟩ = some (.int .u8 ((g t).toNat : Int)) := fun t ht => cell_grown hg3 _hq (cell_alloc (hc2 t ht)))
  | (at_builtin; refine wp_app _ rfl _ _ rfl B q _ _ (moreD g (k + 2)) _ _ rfl hB3 ⟨b,1,none⟩ (by simp [moreD]) rfl (more_cells b _ g (k + 2) hc3) (by have := hN1.out; have := hN2.out; have := hN3.out; omega) ?_; intro w4 N4 hN4 hB4 hg4; have hb4 : Below B w w4 := hb3.grown hg4 (by have := hb3.size; omega) (fun j hj => by cases hj; omega)))
 refine wp_loop_rounds 1 ?_
 rw [rounds_succ]
 go_wp2_with (first
  | (at_builtin; refine wp_app _ rfl _ _ rfl B q _ _ [101] 1 _ rfl (Buf.alloc hB4 _) ⟨_,0,none⟩ rfl rfl (news_new _ _ _ (by first | rfl | (simp [Lib.byteCells]))) (by have := hN1.out; have := hN2.out; have := hN3.out; have := hN4.out; omega) ?_; intro w5 N5 hN5 hB5 hg5; have hb5 : Below B w w5 := (hb4.alloc (by have := hb4.size; omega) _).grown hg5 (by simp; have := hb4.size; omega) (fun j hj => by cases hj; omega))
  | (at_builtin; refine wp_app _ rfl _ _ rfl B q _ _ [45] 1 _ rfl (Buf.alloc hB5 _) ⟨_,0,none⟩ rfl rfl (news_new _ _ _ (by first | rfl | (simp [Lib.byteCells]))) (by have := hN1.out; have := hN2.out; have := hN3.out; have := hN4.out; have := hN5.out; omega) ?_; intro w6 N6 hN6 hB6 hg6; have hb6 : Below B w w6 := (hb5.alloc (by have := hb5.size; omega) _).grown hg6 (by simp; have := hb5.size; omega) (fun j hj => by cases hj; omega))
  | (at_builtin; refine wp_app _ rfl _ _ rfl B q _ _ [48,UInt8.ofNat (48 + M)] 2 _ rfl (Buf.alloc hB6 _) ⟨_,0,none⟩ rfl rfl (news_new _ _ _ (by simp [Lib.byteCells]; omega)) (by have := hN1.out; have := hN2.out; have := hN3.out; have := hN4.out; have := hN5.out; have := hN6.out; omega) ?_; intro w7 N7 hN7 hB7 hg7; have hb7 : Below B w w7 := (hb6.alloc (by have := hb6.size; omega) _).grown hg7 (by simp; have := hb6.size; omega) (fun j hj => by cases hj; omega)))
 go_ret
 refine ⟨_,rfl,?_,hb7⟩
 have e : expD M = [48,UInt8.ofNat (48 + M)] := by unfold expD; rw [if_pos hM]
 have hf := hB7
 unfold fmtL
 rw [← e] at hf
 generalize expD M = D at hf ⊢
 simpa using hf
set_option maxRecDepth 100000 in
set_option maxHeartbeats 2000000 in
theorem fmtE_1112 (B q b : Nat) (w : World) (g : Nat → UInt8) (k : Nat) (hk : k ≤ 15) (M : Nat) (hM0 : 10 ≤ M) (hM : M < 100) (hB : Buf B w q 0 []) (_hq : b ≠ q)
  (hc : ∀ t,t < (k + 2) → w.cell? ⟨b,t,none⟩ = some (.int .u8 ((g t).toNat : Int))) :
  Calls Tryz.prog 143 #[.slice (some ⟨q,0,none⟩) 0 24,.bool true,.slice (some ⟨b,0,none⟩) 32 32,.int .i64 (-(M : Int) + 1),.int .i64 ((k : Int) + 2),.int .i64 ((k : Int) + 1),.int .u8 101,.bool true] w fun e w' =>
   ∃ N,e = .returned (.slice (some ⟨q,0,none⟩) N 24) ∧ Buf B w' q N (fmtL true g (k + 2) true M) ∧ Below B w w' := by
 have hk1 : ¬ ((k : Int) + 2 = 0) := by omega
 have hmin : min ((k : Int) + 2) ((k : Int) + 1 + 1) = (k : Int) + 2 := by omega
 have hzero : (k : Int) + 1 + 1 - ((k : Int) + 2) = 0 := by omega
 have hx0 : -(M : Int) < 0 := by omega
 have hM1 : decide ((M : Int) < 10) = false := by simp; omega
 obtain ⟨hBq,hqw⟩ := hB.base
 have hb0 := Below.refl B w
 go_enter Tryz.func143,Tryz.ntmps143
 go_wp2_with (first
  | (at_builtin; refine wp_app _ rfl _ _ rfl B q _ _ [45] 1 _ rfl (Buf.alloc hB _) ⟨_,0,none⟩ rfl rfl (news_new _ _ _ (by first | rfl | (simp [Lib.byteCells]))) (by omega) ?_; intro w1 N1 hN1 hB1 hg1; have hb1 : Below B w w1 := (hb0.alloc (by have := hb0.size; omega) _).grown hg1 (by simp; have := hb0.size; omega) (fun j hj => by cases hj; omega); have hc1 : ∀ t,t < (k + 2) → w1.cell? ⟨b,t,none⟩ = some (.int .u8 ((g t).toNat : Int)) := fun t ht => cell_grown hg1 _hq (cell_alloc (hc t ht)))
  | (at_builtin; refine wp_app _ rfl _ _ rfl B q _ _ [g 0] 1 _ rfl (Buf.alloc hB1 _) ⟨_,0,none⟩ rfl rfl (news_new _ _ _ (by first | rfl | (simp [Lib.byteCells]))) (by have := hN1.out; omega) ?_; intro w2 N2 hN2 hB2 hg2; have hb2 : Below B w w2 := (hb1.alloc (by have := hb1.size; omega) _).grown hg2 (by simp; have := hb1.size; omega) (fun j hj => by cases hj; omega); have hc2 : ∀ t,t < (k + 2) → w2.cell? ⟨b,t,none⟩ = some (.int .u8 ((g t).toNat : Int)) := fun t ht => cell_grown hg2 _hq (cell_alloc (hc1 t ht)))
  | (at_builtin; refine wp_app _ rfl _ _ rfl B q _ _ [46] 1 _ rfl (Buf.alloc hB2 _) ⟨_,0,none⟩ rfl rfl (news_new _ _ _ (by first | rfl | (simp [Lib.byteCells]))) (by have := hN1.out; have := hN2.out; omega) ?_; intro w3 N3 hN3 hB3 hg3; have hb3 : Below B w w3 := (hb2.alloc (by have := hb2.size; omega) _).grown hg3 (by simp; have := hb2.size; omega) (fun j hj => by cases hj; omega); have hc3 : ∀ t,t < (k + 2) → w3.cell? ⟨b,t,none⟩ = some (.int .u8 ((g t).toNat : Int)) := fun t ht => cell_grown hg3 _hq (cell_alloc (hc2 t ht)))
  | (at_builtin; refine wp_app _ rfl _ _ rfl B q _ _ (moreD g (k + 2)) _ _ rfl hB3 ⟨b,1,none⟩ (by simp [moreD]) rfl (more_cells b _ g (k + 2) hc3) (by have := hN1.out; have := hN2.out; have := hN3.out; omega) ?_; intro w4 N4 hN4 hB4 hg4; have hb4 : Below B w w4 := hb3.grown hg4 (by have := hb3.size; omega) (fun j hj => by cases hj; omega)))
 refine wp_loop_rounds 1 ?_
 rw [rounds_succ]
 go_wp2_with (first
  | (at_builtin; refine wp_app _ rfl _ _ rfl B q _ _ [101] 1 _ rfl (Buf.alloc hB4 _) ⟨_,0,none⟩ rfl rfl (news_new _ _ _ (by first | rfl | (simp [Lib.byteCells]))) (by have := hN1.out; have := hN2.out; have := hN3.out; have := hN4.out; omega) ?_; intro w5 N5 hN5 hB5 hg5; have hb5 : Below B w w5 := (hb4.alloc (by have := hb4.size; omega) _).grown hg5 (by simp; have := hb4.size; omega) (fun j hj => by cases hj; omega))
  | (at_builtin; refine wp_app _ rfl _ _ rfl B q _ _ [45] 1 _ rfl (Buf.alloc hB5 _) ⟨_,0,none⟩ rfl rfl (news_new _ _ _ (by first | rfl | (simp [Lib.byteCells]))) (by have := hN1.out; have := hN2.out; have := hN3.out; have := hN4.out; have := hN5.out; omega) ?_; intro w6 N6 hN6 hB6 hg6; have hb6 : Below B w w6 := (hb5.alloc (by have := hb5.size; omega) _).grown hg6 (by simp; have := hb5.size; omega) (fun j hj => by cases hj; omega))
  | (at_builtin; refine wp_app _ rfl _ _ rfl B q _ _ [UInt8.ofNat (48 + M / 10),UInt8.ofNat (48 + M % 10)] 2 _ rfl (Buf.alloc hB6 _) ⟨_,0,none⟩ rfl rfl (news_new _ _ _ (by simp [Lib.byteCells]; omega)) (by have := hN1.out; have := hN2.out; have := hN3.out; have := hN4.out; have := hN5.out; have := hN6.out; omega) ?_; intro w7 N7 hN7 hB7 hg7; have hb7 : Below B w w7 := (hb6.alloc (by have := hb6.size; omega) _).grown hg7 (by simp; have := hb6.size; omega) (fun j hj => by cases hj; omega)))
 go_ret
 refine ⟨_,rfl,?_,hb7⟩
 have e : expD M = [UInt8.ofNat (48 + M / 10),UInt8.ofNat (48 + M % 10)] := by unfold expD; rw [if_neg (by omega),if_pos hM]
 have hf := hB7
 unfold fmtL
 rw [← e] at hf
 generalize expD M = D at hf ⊢
 simpa using hf
set_option maxRecDepth 100000 in
set_option maxHeartbeats 2000000 in
theorem fmtE_1113 (B q b : Nat) (w : World) (g : Nat → UInt8) (k : Nat) (hk : k ≤ 15) (M : Nat) (hM0 : 100 ≤ M) (hM : M < 400) (hB : Buf B w q 0 []) (_hq : b ≠ q)
  (hc : ∀ t,t < (k + 2) → w.cell? ⟨b,t,none⟩ = some (.int .u8 ((g t).toNat : Int))) :
  Calls Tryz.prog 143 #[.slice (some ⟨q,0,none⟩) 0 24,.bool true,.slice (some ⟨b,0,none⟩) 32 32,.int .i64 (-(M : Int) + 1),.int .i64 ((k : Int) + 2),.int .i64 ((k : Int) + 1),.int .u8 101,.bool true] w fun e w' =>
   ∃ N,e = .returned (.slice (some ⟨q,0,none⟩) N 24) ∧ Buf B w' q N (fmtL true g (k + 2) true M) ∧ Below B w w' := by
 have hk1 : ¬ ((k : Int) + 2 = 0) := by omega
 have hmin : min ((k : Int) + 2) ((k : Int) + 1 + 1) = (k : Int) + 2 := by omega
 have hzero : (k : Int) + 1 + 1 - ((k : Int) + 2) = 0 := by omega
 have hx0 : -(M : Int) < 0 := by omega
 have hM1 : decide ((M : Int) < 10) = false := by simp; omega
 have hM2 : decide ((M : Int) < 100) = false := by simp; omega
 obtain ⟨hBq,hqw⟩ := hB.base
 have hb0 := Below.refl B w
 go_enter Tryz.func143,Tryz.ntmps143
 go_wp2_with (first
  | (at_builtin; refine wp_app _ rfl _ _ rfl B q _ _ [45] 1 _ rfl (Buf.alloc hB _) ⟨_,0,none⟩ rfl rfl (news_new _ _ _ (by first | rfl | (simp [Lib.byteCells]))) (by omega) ?_; intro w1 N1 hN1 hB1 hg1; have hb1 : Below B w w1 := (hb0.alloc (by have := hb0.size; omega) _).grown hg1 (by simp; have := hb0.size; omega) (fun j hj => by cases hj; omega); have hc1 : ∀ t,t < (k + 2) → w1.cell? ⟨b,t,none⟩ = some (.int .u8 ((g t).toNat : Int)) := fun t ht => cell_grown hg1 _hq (cell_alloc (hc t ht)))
  | (at_builtin; refine wp_app _ rfl _ _ rfl B q _ _ [g 0] 1 _ rfl (Buf.alloc hB1 _) ⟨_,0,none⟩ rfl rfl (news_new _ _ _ (by first | rfl | (simp [Lib.byteCells]))) (by have := hN1.out; omega) ?_; intro w2 N2 hN2 hB2 hg2; have hb2 : Below B w w2 := (hb1.alloc (by have := hb1.size; omega) _).grown hg2 (by simp; have := hb1.size; omega) (fun j hj => by cases hj; omega); have hc2 : ∀ t,t < (k + 2) → w2.cell? ⟨b,t,none⟩ = some (.int .u8 ((g t).toNat : Int)) := fun t ht => cell_grown hg2 _hq (cell_alloc (hc1 t ht)))
  | (at_builtin; refine wp_app _ rfl _ _ rfl B q _ _ [46] 1 _ rfl (Buf.alloc hB2 _) ⟨_,0,none⟩ rfl rfl (news_new _ _ _ (by first | rfl | (simp [Lib.byteCells]))) (by have := hN1.out; have := hN2.out; omega) ?_; intro w3 N3 hN3 hB3 hg3; have hb3 : Below B w w3 := (hb2.alloc (by have := hb2.size; omega) _).grown hg3 (by simp; have := hb2.size; omega) (fun j hj => by cases hj; omega); have hc3 : ∀ t,t < (k + 2) → w3.cell? ⟨b,t,none⟩ = some (.int .u8 ((g t).toNat : Int)) := fun t ht => cell_grown hg3 _hq (cell_alloc (hc2 t ht)))
  | (at_builtin; refine wp_app _ rfl _ _ rfl B q _ _ (moreD g (k + 2)) _ _ rfl hB3 ⟨b,1,none⟩ (by simp [moreD]) rfl (more_cells b _ g (k + 2) hc3) (by have := hN1.out; have := hN2.out; have := hN3.out; omega) ?_; intro w4 N4 hN4 hB4 hg4; have hb4 : Below B w w4 := hb3.grown hg4 (by have := hb3.size; omega) (fun j hj => by cases hj; omega)))
 refine wp_loop_rounds 1 ?_
 rw [rounds_succ]
 go_wp2_with (first
  | (at_builtin; refine wp_app _ rfl _ _ rfl B q _ _ [101] 1 _ rfl (Buf.alloc hB4 _) ⟨_,0,none⟩ rfl rfl (news_new _ _ _ (by first | rfl | (simp [Lib.byteCells]))) (by have := hN1.out; have := hN2.out; have := hN3.out; have := hN4.out; omega) ?_; intro w5 N5 hN5 hB5 hg5; have hb5 : Below B w w5 := (hb4.alloc (by have := hb4.size; omega) _).grown hg5 (by simp; have := hb4.size; omega) (fun j hj => by cases hj; omega))
  | (at_builtin; refine wp_app _ rfl _ _ rfl B q _ _ [45] 1 _ rfl (Buf.alloc hB5 _) ⟨_,0,none⟩ rfl rfl (news_new _ _ _ (by first | rfl | (simp [Lib.byteCells]))) (by have := hN1.out; have := hN2.out; have := hN3.out; have := hN4.out; have := hN5.out; omega) ?_; intro w6 N6 hN6 hB6 hg6; have hb6 : Below B w w6 := (hb5.alloc (by have := hb5.size; omega) _).grown hg6 (by simp; have := hb5.size; omega) (fun j hj => by cases hj; omega))
  | (at_builtin; refine wp_app _ rfl _ _ rfl B q _ _ [UInt8.ofNat (48 + M / 100),UInt8.ofNat (48 + M / 10 % 10),UInt8.ofNat (48 + M % 10)] 3 _ rfl (Buf.alloc hB6 _) ⟨_,0,none⟩ rfl rfl (news_new _ _ _ (by simp [Lib.byteCells]; omega)) (by have := hN1.out; have := hN2.out; have := hN3.out; have := hN4.out; have := hN5.out; have := hN6.out; omega) ?_; intro w7 N7 hN7 hB7 hg7; have hb7 : Below B w w7 := (hb6.alloc (by have := hb6.size; omega) _).grown hg7 (by simp; have := hb6.size; omega) (fun j hj => by cases hj; omega)))
 go_ret
 refine ⟨_,rfl,?_,hb7⟩
 have e : expD M = [UInt8.ofNat (48 + M / 100),UInt8.ofNat (48 + M / 10 % 10),UInt8.ofNat (48 + M % 10)] := by unfold expD; rw [if_neg (by omega),if_neg (by omega)]
 have hf := hB7
 unfold fmtL
 rw [← e] at hf
 generalize expD M = D at hf ⊢
 simpa using hf
end Go.Proofs.YtalaajniammggaaGreatDoor
