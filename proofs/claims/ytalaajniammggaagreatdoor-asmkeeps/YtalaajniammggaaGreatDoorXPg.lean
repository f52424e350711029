/- The document's side: digit. -/
import Derived.Test.YtalaajniammggaaGreatDoorXPe
import Derived.Test.YtalaajniammggaaGreatDoorXEe
namespace Go.Proofs.YtalaajniammggaaGreatDoor
open Go.RowKit
def IsD (c n : Nat) : Prop := n ≤ 16 ∧ ∀ d,d < 16 → (hx d).toNat = c → n = d
theorem hx_inj : ∀ d e : Fin 16,(hx d.val).toNat = (hx e.val).toNat → d = e := by decide +kernel
theorem isD_at {c n : Nat} (h : n < 16) (hc : (hx n).toNat = c) : IsD c n := ⟨by omega,fun d hd h2 => by
 have := hx_inj ⟨n,h⟩ ⟨d,hd⟩ (hc.trans h2.symm)
 exact congrArg Fin.val this⟩
theorem isD_none {c : Nat} (h : ∀ d : Nat,d < 16 → (hx d).toNat ≠ c) : IsD c 16 := ⟨by omega,fun d hd h2 => absurd h2 (h d hd)⟩
theorem hx_at : ∀ d : Fin 16,(⟨#[48,49,50,51,52,53,54,55,56,57,97,98,99,100,101,102]⟩ : ByteArray)[d.val]'(d.isLt) = hx d.val := by decide +kernel
set_option maxRecDepth 100000 in
set_option maxHeartbeats 1000000 in
theorem digit_any (c : Nat) (w : World) :
  Calls Tryz.prog 73 #[.int .u8 c] w fun e w' => ∃ n : Nat,e = .returned (.int .u64 n) ∧ IsD c n ∧ w' = w := by
 go_enter Tryz.func73,Tryz.ntmps73
 go_wp2_with fail
 go_loopw [3] (fun s3 wr => ∃ d : Nat,s3 = .int .u64 d ∧ d ≤ 16 ∧ wr = w ∧ Hid (∀ e : Nat,e < d → (hx e).toNat ≠ c)) (fun s3 _ => 16 - (intOf s3).toNat)
 case atStart => exact ⟨0,rfl,by omega,rfl,Lib.hid (fun e he => by omega)⟩
 case round =>
  obtain ⟨d,rfl,hd,hwr,HN⟩ := hrel
  obtain rfl : w = wr := hwr.symm
  by_cases h16 : d < 16
  ·have h16' : (d : Int) < 16 := by omega
   have hsz : d < (⟨#[48,49,50,51,52,53,54,55,56,57,97,98,99,100,101,102]⟩ : ByteArray).size := h16
   obtain ⟨ch,hch⟩ : ∃ ch,(⟨#[48,49,50,51,52,53,54,55,56,57,97,98,99,100,101,102]⟩ : ByteArray)[d] = ch := ⟨_,rfl⟩
   have hcx : ch = hx d := hch.symm.trans (hx_at ⟨d,h16⟩)
   have c255 : ch.toNat < 256 := ch.toNat_lt
   by_cases a : ch.toNat = c
   ·have a' : ((ch.toNat : Int) == (c : Int)) = true := by rw [beq_iff_eq]; omega
    have HD := Lib.hid (isD_at h16 (show (hx d).toNat = c by rw [← hcx]; exact a))
    clear a hcx
    go_wp2_with fail
    go_ret
    exact ⟨d,rfl,HD.out,by trivial⟩
   ·have a' : ((ch.toNat : Int) == (c : Int)) = false := by rw [beq_eq_false_iff_ne]; omega
    have HN' : Hid (∀ e : Nat,e < d + 1 → (hx e).toNat ≠ c) := Lib.hid (fun e he => by
     by_cases ee : e = d
     ·subst ee; rw [← hcx]; exact a
     ·exact HN.out e (by omega))
    clear HN hcx
    go_wp2_with fail
    exact ⟨⟨d + 1,rfl,by omega,by trivial,HN'⟩,by simp [intOf] <;> omega⟩
  ·have h16' : decide ((d : Int) < 16) = false := by simp; omega
   have h16'' : (16 : Int) ≤ (d : Int) := by omega
   have HD := Lib.hid (isD_none (c := c) (fun e he => HN.out e (by omega)))
   clear HN
   go_wp2_with fail
   go_ret
   exact ⟨16,rfl,HD.out,by trivial⟩
end Go.Proofs.YtalaajniammggaaGreatDoor

/- Whose text a text may be. -/
namespace Go.Proofs.YtalaajniammggaaGreatDoor
open Go.RowKit
def Gs (L : List UInt8) (b : Nat) : Prop := ∀ x,x < 18446744073709551616 → printL x = L → b = x
theorem gs_of {L : List UInt8} {b : Nat} (hb : b < 18446744073709551616) (h : printL b = L) : Gs L b := fun _ hx hp => print_inj hb hx (h.trans hp.symm)
theorem gs_none {L : List UInt8} {b : Nat} (h : Gs L b) (hn : printL b ≠ L) : ∀ x,x < 18446744073709551616 → printL x ≠ L := fun x hx hp => hn (by rw [h x hx hp]; exact hp)
theorem hxs_len (n : Nat) : ∀ j,(hxs n j).length = j
 | 0 => rfl
 | j + 1 => by simp [hxs,hxs_len n j]
theorem nan_text {x : Nat} (hx : x < 18446744073709551616) (h : INF < rungOf x) : printL x = [110,97,110,58] ++ hxs x 16 := by
 unfold printL
 rw [if_pos h,nan_big hx h]
theorem nan_only {L : List UInt8} (h4 : L.take 4 = [110,97,110,58]) {x : Nat} (hx : x < 18446744073709551616) (h : printL x = L) : L = [110,97,110,58] ++ hxs x 16 := by
 by_cases hn : INF < rungOf x
 ·rw [← h]; exact nan_text hx hn
 ·exfalso
  have e : printL x = numL x := by unfold printL; rw [if_neg hn]
  obtain ⟨c,r,e2,hc⟩ := numL_head x
  rw [← h,e,e2] at h4
  simp at h4
  exact hc h4.1
theorem not_nan {L : List UInt8} (hn : ¬ (L.length = 20 ∧ L.take 4 = [110,97,110,58])) {x : Nat} (hx : x < 18446744073709551616) (h : printL x = L) : rungOf x ≤ INF := by
 rcases Nat.lt_or_ge INF (rungOf x) with hc | hc
 ·exfalso
  apply hn
  rw [← h,nan_text hx hc]
  exact ⟨by rw [List.length_append,hxs_len]; rfl,rfl⟩
 ·exact hc
theorem sign_of {L u : List UInt8} {mi : Bool} (hL : L = (if mi then [45] else []) ++ u) (hmi : mi = false → L.head? ≠ some 45) {x : Nat} (h : printL x = L) (hr : rungOf x ≤ INF) :
  negOf x = mi ∧ (rungOf x = INF → u = [105,110,102]) ∧ (rungOf x < INF → u = txtL false (gF (rungOf x)) (nF (rungOf x)) (XF (rungOf x))) := by
 have e : printL x = numL x := by unfold printL; rw [if_neg (by omega)]
 rw [e] at h
 have head : ∀ v : List UInt8,∀ ng : Bool,numL x = (if ng then [45] else []) ++ v → v.head? ≠ some 45 → negOf x = ng → negOf x = mi ∧ u = v := by
  intro v ng h1 h2 h3
  rw [h1,hL] at h
  cases ng <;> cases mi
  ·exact ⟨h3,by simpa using h.symm⟩
  ·simp at h; rw [h] at h2; simp at h2
  ·simp at h
   rw [hL,← h] at hmi
   simp at hmi
  ·exact ⟨h3,by simpa using h.symm⟩
 by_cases hi : rungOf x = INF
 ·have h1 : numL x = (if negOf x then [45] else []) ++ [105,110,102] := by unfold numL; rw [if_pos hi]; cases negOf x <;> rfl
  obtain ⟨a,b⟩ := head [105,110,102] (negOf x) h1 (by simp) rfl
  exact ⟨a,fun _ => b,fun hc => by omega⟩
 ·have h1 := num_text x (by omega)
  have h2 : (txtL false (gF (rungOf x)) (nF (rungOf x)) (XF (rungOf x))).head? ≠ some 45 := by
   obtain ⟨k,hk,eg⟩ := gF_digit (rungOf x) 0
   unfold txtL prefL
   simp
   rw [eg]
   intro hc
   have := congrArg UInt8.toNat hc
   simp at this
   omega
  obtain ⟨a,b⟩ := head _ (negOf x) h1 h2 rfl
  exact ⟨a,fun hc => absurd hc hi,fun _ => b⟩
def sg63 (mi : Bool) : Nat := if mi then 9223372036854775808 else 0
theorem gs_inf {L u : List UInt8} {mi : Bool} (hL : L = (if mi then [45] else []) ++ u) (hu : u = [105,110,102]) : Gs L (INF + sg63 mi) := by
 have hI : INF = 9218868437227405312 := rfl
 refine gs_of (by unfold sg63; cases mi <;> (rw [hI]; decide)) ?_
 rw [hL,hu]
 cases mi
 ·have e1 : rungOf (INF + sg63 false) = INF := by decide +kernel
  have e2 : negOf (INF + sg63 false) = false := by decide +kernel
  unfold printL numL
  rw [e1,e2,if_neg (by omega),if_pos rfl]
  rfl
 ·have e1 : rungOf (INF + sg63 true) = INF := by decide +kernel
  have e2 : negOf (INF + sg63 true) = true := by decide +kernel
  unfold printL numL
  rw [e1,e2,if_neg (by omega),if_pos rfl]
  rfl
theorem txt_zero : txtL false (gF 0) (nF 0) (XF 0) = [48,101,48] := by
 have z : rungOf 0 = 0 := by decide
 unfold txtL prefL gF nF XF
 rw [if_pos z,if_pos z,if_pos z]
 simp [Lib.itoa,Lib.decDigits]
theorem gs_zero {L u : List UInt8} {mi : Bool} (hL : L = (if mi then [45] else []) ++ u) (hu : u = [48,101,48]) : Gs L (0 + sg63 mi) := by
 have hI : INF = 9218868437227405312 := rfl
 refine gs_of (by unfold sg63; cases mi <;> decide) ?_
 have key : ∀ b : Bool,printL (0 + sg63 b) = (if b then [45] else []) ++ [48,101,48] := by
  intro b
  have e1 : rungOf (0 + sg63 b) = 0 := by cases b <;> decide +kernel
  have e2 : negOf (0 + sg63 b) = b := by cases b <;> decide +kernel
  have h1 := num_text (0 + sg63 b) (by rw [e1]; decide)
  unfold printL
  rw [if_neg (by rw [e1]; decide),h1,e1,e2,txt_zero]
 rw [key,hL,hu]
theorem gs_num {L u : List UInt8} {mi : Bool} (hL : L = (if mi then [45] else []) ++ u) (hmi : mi = false → L.head? ≠ some 45) (hn : ¬ (L.length = 20 ∧ L.take 4 = [110,97,110,58])) (h1 : u ≠ [105,110,102]) (h2 : u ≠ [48,101,48]) {x : Nat} (hx : x < 18446744073709551616) (h : printL x = L) :
  ∃ r,1 ≤ r ∧ r < INF ∧ v1 u u 0 0 0 = some (dF r,pF r) ∧ Rds r (dF r) (pF r) ∧ dF r < 100000000000000000 ∧ -345 ≤ pF r ∧ pF r ≤ 310 ∧ r + sg63 mi = x := by
 have hr := not_nan hn hx h
 obtain ⟨a,b,c⟩ := sign_of hL hmi h hr
 have hlt : rungOf x < INF := by
  rcases Nat.lt_or_ge (rungOf x) INF with hc | hc
  ·exact hc
  ·exact absurd (b (by omega)) h1
 have hu := c hlt
 have hz : rungOf x ≠ 0 := by
  intro hz
  rw [hz,txt_zero] at hu
  exact h2 hu
 have es := rung_self hlt
 have hz' : rungOf (rungOf x) ≠ 0 := by rw [es]; exact hz
 have hf' : rungOf (rungOf x) < INF := by rw [es]; exact hlt
 have hv := v1_print hz' hf'
 obtain ⟨r1,r2,r3,r4,r5⟩ := read_F hz' hf'
 rw [es] at r1
 have hw := word_sg x hx
 rw [a] at hw
 refine ⟨rungOf x,by omega,hlt,by rw [hu]; exact hv,⟨by omega,hlt,r1⟩,r3,by omega,by omega,?_⟩
 unfold sg63
 omega
end Go.Proofs.YtalaajniammggaaGreatDoor

/- The document's side: Parse. -/
namespace Go.Proofs.YtalaajniammggaaGreatDoor
open Go.RowKit
def ROut (L : List UInt8) (v : Value) : Prop :=
 (v = .tuple #[.int .i64 0,.int .i64 4] ∧ ∀ x,x < 18446744073709551616 → printL x ≠ L) ∨ (∃ b,v = .tuple #[.int .i64 (wrap64 (b : Nat)),.int .i64 0] ∧ b < 18446744073709551616 ∧ printL b = L)
theorem or63 (b : Nat) (h : b < 9223372036854775808) : bits .or .u64 (b : Int) 9223372036854775808 = ((b + 9223372036854775808 : Nat) : Int) := by
 have h1 := u64_or_nat b 9223372036854775808 (by omega) (by omega)
 have p63 : (2 : Nat) ^ 63 = 9223372036854775808 := by decide
 have e : b ||| 9223372036854775808 = b + 9223372036854775808 := by
  have h2 := Nat.two_pow_add_eq_or_of_lt (i := 63) (b := b) (by omega) 1
  rw [Nat.mul_one,p63] at h2
  rw [Nat.or_comm,← h2]
  omega
 rw [e] at h1
 exact h1
def NanR (L : List UInt8) (i b : Nat) : Prop := ∀ x,x < 18446744073709551616 → L = [110,97,110,58] ++ hxs x 16 → b = x / 16 ^ (20 - i)
theorem hxs_at (x : Nat) : ∀ (j t : Nat),t < j → (hxs x j).getD t 0 = hx (x / 16 ^ (j - 1 - t) % 16)
 | 0,t,h => absurd h (Nat.not_lt_zero t)
 | j + 1,0,_ => by simp [hxs]
 | j + 1,t + 1,h => by
  have := hxs_at x j t (by omega)
  simp only [hxs,List.getD_cons_succ]
  rw [this,show j - 1 - t = j + 1 - 1 - (t + 1) by omega]
theorem nan_step {L : List UInt8} {i b c n : Nat} (h : NanR L i b) (h4 : 4 ≤ i) (hi : i < 20) (hc : c = (L.getD i 0).toNat) (hn : IsD c n) {B N : Nat} (hB : B = b * 16 % 18446744073709551616) (hN : N = n % 16) : NanR L (i + 1) (B ||| N) := by
 intro x hx0 hL
 have hb := h x hx0 hL
 have hg : L.getD i 0 = hx (x / 16 ^ (19 - i) % 16) := by
  rw [hL,List.getD_eq_getElem?_getD,List.getElem?_append_right (by simpa using h4),← List.getD_eq_getElem?_getD]
  have := hxs_at x 16 (i - 4) (by omega)
  rw [show 16 - 1 - (i - 4) = 19 - i by omega] at this
  exact this
 have hd : n = x / 16 ^ (19 - i) % 16 := hn.2 _ (Nat.mod_lt _ (by decide)) (by rw [hc,hg])
 have e1 : 16 ^ (20 - i) = 16 ^ (19 - i) * 16 := by rw [← Nat.pow_succ]; congr 1; omega
 have e2 : b = x / 16 ^ (19 - i) / 16 := by rw [hb,e1,Nat.div_div_eq_div_mul]
 obtain ⟨y,hy⟩ : ∃ y,x / 16 ^ (19 - i) = y := ⟨_,rfl⟩
 rw [hy] at hd e2
 have yl : y < 18446744073709551616 := by rw [← hy]; exact Nat.lt_of_le_of_lt (Nat.div_le_self _ _) hx0
 have hB2 : B = b * 16 := by rw [hB]; exact Nat.mod_eq_of_lt (by omega)
 have hN2 : N = n := by rw [hN]; exact Nat.mod_eq_of_lt (by omega)
 rw [show 20 - (i + 1) = 19 - i by omega,hy,hB2,hN2]
 have e3 : b * 16 ||| n = b * 16 + n := by
  rw [show b * 16 = 2 ^ 4 * b by omega,← Nat.two_pow_add_eq_or_of_lt (by omega)]
 rw [e3]
 omega
end Go.Proofs.YtalaajniammggaaGreatDoor

/- The document's side: Parse's walk. -/
namespace Go.Proofs.YtalaajniammggaaGreatDoor
open Go.RowKit
theorem toList_is (t : ByteArray) : t.toList = t.data.toList := Lib.toList_data t
set_option maxRecDepth 100000 in
set_option maxHeartbeats 4000000 in
theorem rparse_any (t : ByteArray) (w : World) :
  Calls Tryz.prog 60 #[.string t] w fun e w' => ∃ v,e = .returned v ∧ ROut t.data.toList v ∧ Below w.heap.size w w' := by
 have hI : INF = 9218868437227405312 := rfl
 by_cases h32 : 32 < t.size
 ·have h32' : (32 : Int) < (t.size : Int) := by omega
  have HN : Hid (∀ x,x < 18446744073709551616 → printL x ≠ t.data.toList) := Lib.hid (fun x hx h => by
   have := print_len x hx
   rw [h,size_list] at this
   omega)
  go_enter Tryz.func60,Tryz.ntmps60
  go_wp2_with fail
  go_ret2
  exact ⟨_,rfl,.inl ⟨rfl,HN.out⟩,Below.refl _ _⟩
 ·have h32' : decide ((32 : Int) < (t.size : Int)) = false := by simp; omega
  have h32'' : (t.size : Int) ≤ 32 := by omega
  have t32 : t.size ≤ 32 := by omega
  clear h32
  go_enter Tryz.func60,Tryz.ntmps60
  go_upto_region 5 with fail
  go_cut [6] from 15 to 22 (fun s6 wy => ∃ mi : Bool,s6 = .bool mi ∧ wy = w ∧ Hid ((mi = true → ∃ r,t.data.toList = 45 :: r) ∧ (mi = false → t.data.toList.head? ≠ some 45)))
  case first =>
   by_cases h0 : 0 < t.size
   ·have h0' : (0 : Int) < (t.size : Int) := by omega
    obtain ⟨ch,hch⟩ : ∃ c,t[0] = c := ⟨_,rfl⟩
    have c255 : ch.toNat < 256 := ch.toNat_lt
    have hdr := drop_in t 0 h0
    rw [hch,List.drop_zero] at hdr
    have HD := Lib.hid hdr
    clear hdr
    by_cases a1 : ch.toNat = 45
    ·have a1' : ((ch.toNat : Int) == 45) = true := by rw [beq_iff_eq]; omega
     have ec : ch = 45 := UInt8.toNat_inj.1 a1
     have HE := Lib.hid ec
     clear a1 ec
     go_wp2_with fail
     go_meet
     exact ⟨true,rfl,by trivial,Lib.hid ⟨fun _ => ⟨_,by rw [HD.out,HE.out]⟩,fun h => absurd h (by decide)⟩⟩
    ·have a1' : ((ch.toNat : Int) == 45) = false := by rw [beq_eq_false_iff_ne]; omega
     go_wp2_with fail
     go_meet
     exact ⟨false,rfl,by trivial,Lib.hid ⟨fun h => absurd h (by decide),fun _ h => by
      rw [HD.out] at h
      simp at h
      rw [h] at a1
      exact a1 rfl⟩⟩
   ·have h0' : decide ((0 : Int) < (t.size : Int)) = false := decide_eq_false (by omega)
    have h0n : decide (0 < t.size) = false := decide_eq_false h0
    have hE : t = ByteArray.empty := ByteArray.size_eq_zero_iff.1 (by omega)
    have d0 : decide (t = ByteArray.empty) = true := decide_eq_true hE
    have HL : Hid (t.data.toList = []) := Lib.hid (List.eq_nil_of_length_eq_zero (by rw [size_list]; omega))
    clear hE
    go_wp2_with fail
    go_meet
    exact ⟨false,rfl,by trivial,Lib.hid ⟨fun h => absurd h (by decide),fun _ h => by rw [HL.out] at h; simp at h⟩⟩
  case rest =>
   obtain ⟨mi,rfl,hwc,HM⟩ := hcut
   obtain rfl : w = wc := hwc.symm
   go_upto_if 23 with fail
   go_cut [5,23] from 24 to 25 (fun s5 _ wy => ∃ u : ByteArray,s5 = .string u ∧ u.size ≤ 32 ∧ wy = w ∧ Hid (t.data.toList = (if mi then [45] else []) ++ u.data.toList))
   case first =>
    cases mi with
    | true =>
     obtain ⟨r,hr⟩ := HM.out.1 rfl
     have hs1 : 1 ≤ t.size := by rw [← size_list,hr]; simp
     have hs1' : (1 : Int) ≤ (t.size : Int) := by omega
     obtain ⟨u,hu⟩ : ∃ u,Hid (t.extract 1 t.size = u) := ⟨_,Lib.hid rfl⟩
     have eu : t.extract 1 t.size = u := hu.out
     have us : u.size ≤ 32 := by rw [← hu.out]; simp; omega
     have HU : Hid (t.data.toList = [45] ++ u.data.toList) := Lib.hid (by
      rw [← hu.out,Lib.extract_data,hr]
      have h9 : r.length = t.size - 1 := by
       have := congrArg List.length hr
       rw [size_list] at this
       simp at this
       omega
      simp only [List.drop_succ_cons,List.drop_zero,List.cons_append,List.nil_append]
      rw [List.take_of_length_le (by omega)])
     clear hu hr
     go_wp2_with fail
     go_meet
     exact ⟨u,rfl,us,by trivial,HU⟩
    | false =>
     go_wp2_with fail
     go_meet
     exact ⟨t,rfl,t32,by trivial,Lib.hid (by simp)⟩
   case rest =>
    obtain ⟨u,rfl,us,hwc,HU⟩ := hcut
    obtain rfl : w = wc := hwc.symm
    go_upto_block 0 with fail
    go_cut [4,7,8,9,10] from 26 to 63 (fun s4 _ _ _ _ wy => ∃ b : Nat,s4 = .int .u64 b ∧ b < 18446744073709551616 ∧ Hid ((mi = true → b < 9223372036854775808) ∧ Gs t.data.toList (b + sg63 mi)) ∧ Hid (Below w.heap.size w wy))
    case first =>
     go_upto_region 12 with fail
     go_cut [37] from 38 to 45 (fun s37 wy => ∃ nb : Bool,s37 = .bool nb ∧ wy = w ∧ Hid (nb = true ↔ t.data.toList.length = 20 ∧ t.data.toList.take 4 = [110,97,110,58]))
     case first =>
      by_cases h20 : t.size = 20
      ·have h20' : ((t.size : Int) == 20) = true := by rw [beq_iff_eq]; omega
       have h4' : (4 : Int) ≤ (t.size : Int) := by omega
       obtain ⟨p,hp⟩ : ∃ p,Hid (t.extract 0 4 = p) := ⟨_,Lib.hid rfl⟩
       have ep : t.extract 0 4 = p := hp.out
       have HP : Hid (p.toList = t.data.toList.take 4) := Lib.hid (by rw [← hp.out,toList_is,Lib.extract_data]; simp)
       have H20 := Lib.hid h20
       clear hp h20
       by_cases hn : t.data.toList.take 4 = [110,97,110,58]
       ·have d : (p.toList == [110,97,110,58]) = true := by rw [HP.out,hn]; rfl
        have HN := Lib.hid hn
        clear hn HP
        go_wp2_with fail
        go_meet
        exact ⟨true,rfl,by trivial,Lib.hid ⟨fun _ => ⟨by rw [size_list]; exact H20.out,HN.out⟩,fun _ => rfl⟩⟩
       ·have d : (p.toList == [110,97,110,58]) = false := by
         rw [HP.out]
         simp only [beq_eq_false_iff_ne,ne_eq]
         intro h
         exact hn h
        clear HP
        go_wp2_with fail
        go_meet
        exact ⟨false,rfl,by trivial,Lib.hid ⟨fun h => absurd h (by decide),fun h => absurd h.2 hn⟩⟩
      ·have h20' : ((t.size : Int) == 20) = false := by rw [beq_eq_false_iff_ne]; omega
       go_wp2_with fail
       go_meet
       exact ⟨false,rfl,by trivial,Lib.hid ⟨fun h => absurd h (by decide),fun h => absurd h.1 (by rw [size_list]; exact h20)⟩⟩
     case rest =>
      obtain ⟨nb,rfl,hwc,HNB⟩ := hcut
      obtain rfl : w = wc := hwc.symm
      cases nb with
      | true =>
       have hNB := HNB.out.1 rfl
       have hsz : t.size = 20 := by rw [← size_list]; exact hNB.1
       have HSZ := Lib.hid hsz
       have hmi : mi = false := by
        cases mi with
        | false => rfl
        | true =>
         exfalso
         obtain ⟨r,hr⟩ := HM.out.1 rfl
         have := hNB.2
         rw [hr] at this
         simp at this
       subst hmi
       have H0 : Hid (NanR t.data.toList 4 0) := Lib.hid (fun x hx _ => by
        have : (16 : Nat) ^ (20 - 4) = 18446744073709551616 := by decide
        rw [this]
        omega)
       have h4 := Lib.hid hNB.2
       have t20 : (t.size : Int) = 20 := by omega
       have t20n : 20 ≤ t.size := by omega
       clear hNB hsz HNB HM HU t20 h32' h32''
       go_wp2_with fail
       go_loopw [4,7] (fun s4 s7 wr => ∃ b i : Nat,s4 = .int .u64 b ∧ s7 = .int .i64 i ∧ b < 18446744073709551616 ∧ 4 ≤ i ∧ i ≤ 20 ∧ wr = w ∧ Hid (NanR t.data.toList i b)) (fun _ s7 _ => 20 - (intOf s7).toNat)
       case atStart => exact ⟨0,4,rfl,rfl,by omega,by omega,by omega,rfl,H0⟩
       case round =>
        clear H0
        obtain ⟨b,i,rfl,rfl,hb,i4,i20,hwr,H0⟩ := hrel
        obtain rfl : w = wr := hwr.symm
        by_cases hi : i < 20
        ·have hi' : (i : Int) < 20 := by omega
         have his : i < t.size := by omega
         have his' : (i : Int) < (t.size : Int) := by omega
         obtain ⟨ch,hch⟩ : ∃ c,t[i] = c := ⟨_,rfl⟩
         have hgd : (t.data.toList.getD i 0).toNat = ch.toNat := by rw [getD_in t i his,hch]
         have HG := Lib.hid hgd
         have hD := fun W => digit_any ch.toNat W
         obtain ⟨B,hB⟩ : ∃ B,Hid (B = b * 16 % 18446744073709551616) := ⟨_,Lib.hid rfl⟩
         have eB : IntKind.u64.wrap ((b : Int) * 16) = (B : Int) := by rw [IntKind.wrap_u64]; have := hB.out; omega
         have Bb : B < 18446744073709551616 := by rw [hB.out]; exact Nat.mod_lt _ (by decide)
         clear hgd
         go_wp2_with fail
         refine (hD _).mono ?_
         rintro e w1 ⟨n,rfl,hn,hw1⟩
         obtain rfl : w = w1 := hw1.symm
         obtain ⟨N,hN⟩ : ∃ N,Hid (N = n % 16) := ⟨_,Lib.hid rfl⟩
         have eN : bits .and .u64 (n : Int) 15 = (N : Int) := by
          have h1 := u64_and_nat n 15 (by have := hn.1; omega) (by decide)
          have h2 : n &&& 15 = n % 16 := Nat.and_two_pow_sub_one_eq_mod _ 4
          rw [h2,← hN.out] at h1
          exact h1
         have Nb : N < 16 := by rw [hN.out]; exact Nat.mod_lt _ (by decide)
         obtain ⟨C,hC⟩ : ∃ C,Hid (B ||| N = C) := ⟨_,Lib.hid rfl⟩
         have eC : bits .or .u64 (B : Int) (N : Int) = (C : Int) := by rw [← hC.out]; exact u64_or_nat B N Bb (by omega)
         have Cb : C < 18446744073709551616 := by rw [← hC.out]; exact Nat.or_lt_two_pow (n := 64) Bb (by omega)
         have H1 : Hid (NanR t.data.toList (i + 1) C) := Lib.hid (by rw [← hC.out]; exact nan_step H0.out i4 hi HG.out.symm hn hB.out hN.out)
         clear H0 hn hN hC hB HG hD
         go_wp2_with fail
         exact ⟨⟨C,i + 1,rfl,rfl,Cb,by omega,by omega,by trivial,H1⟩,by simp [intOf] <;> omega⟩
        ·have hi' : decide ((i : Int) < 20) = false := by simp; omega
         have hi'' : (20 : Int) ≤ (i : Int) := by omega
         have ei : i = 20 := by omega
         have HGS : Hid (Gs t.data.toList (b + sg63 false)) := Lib.hid (fun x hx h => by
          have h1 := nan_only h4.out hx h
          have h2 := H0.out x hx h1
          rw [ei] at h2
          simp at h2
          show b + 0 = x
          omega)
         clear H0 ei
         go_wp2_with fail
         go_meet
         exact ⟨b,rfl,hb,Lib.hid ⟨fun h => absurd h (by decide),HGS.out⟩,Lib.hid (Below.refl _ _)⟩
      | false =>
       have HN : Hid (¬ (t.data.toList.length = 20 ∧ t.data.toList.take 4 = [110,97,110,58])) := Lib.hid (fun h => absurd (HNB.out.2 h) (by decide))
       clear HNB
       by_cases hi : u.data.toList = [105,110,102]
       ·have d1 : (u.toList == [105,110,102]) = true := by rw [toList_is,hi]; rfl
        have HG := Lib.hid (gs_inf HU.out hi)
        clear hi
        go_wp2_with fail
        go_meet
        exact ⟨9218868437227405312,rfl,by omega,Lib.hid ⟨fun _ => by omega,HG.out⟩,Lib.hid (Below.refl _ _)⟩
       ·have d1 : (u.toList == [105,110,102]) = false := by rw [toList_is]; simpa using hi
        by_cases hz : u.data.toList = [48,101,48]
        ·have d2 : (u.toList == [48,101,48]) = true := by rw [toList_is,hz]; rfl
         have HG := Lib.hid (gs_zero HU.out hz)
         clear hz hi
         go_wp2_with fail
         go_meet
         exact ⟨0,rfl,by omega,Lib.hid ⟨fun _ => by omega,HG.out⟩,Lib.hid (Below.refl _ _)⟩
        ·have d2 : (u.toList == [48,101,48]) = false := by rw [toList_is]; simpa using hz
         have hV := fun W => value_any u (by omega) W
         have HGN := Lib.hid (fun x (hx : x < 18446744073709551616) h => gs_num HU.out HM.out.2 HN.out hi hz (x := x) hx h)
         obtain ⟨R,hR⟩ : ∃ R,Hid (v1 u.data.toList u.data.toList 0 0 0 = R) := ⟨_,Lib.hid rfl⟩
         rw [hR.out] at hV HGN
         clear hi hz hR HN HM HU
         go_wp2_with fail
         refine (hV _).mono ?_
         rintro e w1 ⟨v,rfl,hv,hw1⟩
         obtain rfl : w = w1 := hw1.symm
         cases R with
         | none =>
          have hv : v = .tuple #[.int .u64 (0 : Nat),.int .i64 0,.bool false] := hv
          subst hv
          have HX : Hid (∀ x,x < 18446744073709551616 → printL x ≠ t.data.toList) := Lib.hid (fun x hx h => by
           obtain ⟨r,_,_,h3,_⟩ := HGN.out x hx h
           simp at h3)
          clear HGN
          go_wp2_with fail
          go_ret2
          exact ⟨_,rfl,.inl ⟨rfl,HX.out⟩,Below.refl _ _⟩
         | some p =>
          obtain ⟨c,s⟩ := p
          obtain ⟨hv,p1,p2,p3,p4⟩ := hv
          simp only at hv p1 p2 p3 p4
          subst hv
          have hNr := nearest_any c s p1 p2 p3 p4 w
          go_wp2_with fail
          refine hNr.mono ?_
          rintro e w2 ⟨r,rfl,hr,hO,b2⟩
          have HG : Hid (Gs t.data.toList (r + sg63 mi)) := Lib.hid (fun x hx h => by
           obtain ⟨r0,q1,q2,q3,q4,q5,q6,q7,q8⟩ := HGN.out x hx h
           simp only [Option.some.injEq,Prod.mk.injEq] at q3
           obtain ⟨rfl,rfl⟩ := q3
           rw [hO q5 q6 q7 r0 q4]
           exact q8)
          have rb : r < 9223372036854775808 := by omega
          have B2 := Lib.hid b2
          clear hO HGN b2
          go_wp2_with fail
          go_meet
          exact ⟨r,rfl,by omega,Lib.hid ⟨fun _ => rb,HG.out⟩,B2⟩
    case rest =>
     obtain ⟨b,rfl,hb,HG,HB⟩ := hcut
     clear HM HU
     go_upto_if 64 with fail
     go_cut [4,64] from 65 to 66 (fun s4 _ wy => ∃ b : Nat,s4 = .int .u64 b ∧ b < 18446744073709551616 ∧ Hid (Gs t.data.toList b) ∧ wy = wc)
     case first =>
      cases mi with
      | true =>
       have hb2 := HG.out.1 rfl
       have e1 := or63 b hb2
       have HG2 : Hid (Gs t.data.toList (b + 9223372036854775808)) := Lib.hid HG.out.2
       clear HG
       go_wp2_with fail
       go_meet
       exact ⟨b + 9223372036854775808,rfl,by omega,HG2,by trivial⟩
      | false =>
       have HG2 : Hid (Gs t.data.toList b) := Lib.hid HG.out.2
       clear HG
       go_wp2_with fail
       go_meet
       exact ⟨b,rfl,hb,HG2,by trivial⟩
     case rest =>
      clear HG hb
      obtain ⟨b,rfl,hb,HG,hwc⟩ := hcut
      subst hwc
      have hP := rprint_any (wrap64 (b : Int))
      rw [wd_wrap b hb] at hP
      obtain ⟨z,hz⟩ : ∃ z,Hid (wrap64 (b : Int) = z) := ⟨_,Lib.hid rfl⟩
      have ez : wrap64 (b : Int) = z := hz.out
      rw [hz.out] at hP
      obtain ⟨sp,hsp⟩ : ∃ s : ByteArray,Hid (s = ⟨(printL b).toArray⟩) := ⟨_,Lib.hid rfl⟩
      have HSP : Hid (sp.toList = printL b) := Lib.hid (by rw [hsp.out,toList_is])
      simp only [← hsp.out] at hP
      have et := toList_is t
      by_cases hq : printL b = t.data.toList
      ·have d1 : (sp.toList == t.toList) = true := by rw [HSP.out,et,hq]; simp
       have HQ := Lib.hid hq
       clear hq HSP hsp et HG
       go_wp2_with fail
       refine (hP _).mono ?_
       rintro e w3 ⟨rfl,b3⟩
       go_wp2_with fail
       go_ret2
       exact ⟨_,rfl,.inr ⟨b,by rw [hz.out]; rfl,hb,HQ.out⟩,HB.out.trans (b3.mono HB.out.size)⟩
      ·have d1 : (sp.toList == t.toList) = false := by rw [HSP.out,et]; simpa using hq
       have HX := Lib.hid (gs_none HG.out hq)
       clear hq HSP hsp et HG
       go_wp2_with fail
       refine (hP _).mono ?_
       rintro e w3 ⟨rfl,b3⟩
       go_wp2_with fail
       go_ret2
       exact ⟨_,rfl,.inl ⟨rfl,HX.out⟩,HB.out.trans (b3.mono HB.out.size)⟩
end Go.Proofs.YtalaajniammggaaGreatDoor
