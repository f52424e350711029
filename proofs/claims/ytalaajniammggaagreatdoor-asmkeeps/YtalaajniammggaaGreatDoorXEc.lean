/- underscoreOK answers, whatever text comes in. -/
import Derived.Test.YtalaajniammggaaGreatDoorXDe
import Derived.LaidEqlPtr
namespace Go.Proofs.YtalaajniammggaaGreatDoor
open Go.RowKit
set_option maxRecDepth 100000 in
set_option maxHeartbeats 4000000 in
theorem under_any (s : ByteArray) (w : World) (hs : s.size ≤ 140737488355328) :
  Calls Tryz.prog 136 #[.string s] w fun e w' => ∃ v,e = .returned v ∧ IsB v ∧ w' = w := by
 have hlow := lower_any
 go_enter Tryz.func136,Tryz.ntmps136
 go_upto_region 3 with fail
 go_cut [18] from 6 to 17 (fun s18 wy => ∃ b : Bool,s18 = .bool b ∧ wy = w ∧ Hid (b = true → 1 ≤ s.size))
 case first =>
  by_cases h1 : 1 ≤ s.size
  ·have h1' : (1 : Int) ≤ (s.size : Int) := by omega
   have h1n : 0 < s.size := h1
   have h1z : (0 : Int) < (s.size : Int) := by omega
   obtain ⟨c,hc⟩ : ∃ c,s[0] = c := ⟨_,rfl⟩
   have c255 : c.toNat < 256 := c.toNat_lt
   by_cases a1 : c.toNat = 45
   ·have a1' : ((c.toNat : Int) == 45) = true := by rw [beq_iff_eq]; omega
    clear a1
    go_wp2_with fail
    go_meet
    exact ⟨_,rfl,by trivial,Lib.hid (fun _ => h1)⟩
   ·have a1' : ((c.toNat : Int) == 45) = false := by rw [beq_eq_false_iff_ne]; omega
    go_wp2_with fail
    go_meet
    exact ⟨_,rfl,by trivial,Lib.hid (fun _ => h1)⟩
  ·have h1' : decide ((1 : Int) ≤ (s.size : Int)) = false := by simp; omega
   have h1n : decide (1 ≤ s.size) = false := decide_eq_false h1
   have h1z : (s.size : Int) < 1 := by omega
   go_wp2_with fail
   go_meet
   exact ⟨false,rfl,by trivial,Lib.hid (fun h => absurd h (by decide))⟩
 case rest =>
  obtain ⟨b,rfl,hwc,HB⟩ := hcut
  obtain rfl : w = wc := hwc.symm
  go_upto_if 18 with fail
  go_cut [0,18] from 19 to 20 (fun s0 _ wy => ∃ t : ByteArray,s0 = .string t ∧ t.size ≤ 140737488355328 ∧ wy = w)
  case first =>
   cases b with
   | false =>
    go_wp2_with fail
    go_meet
    exact ⟨s,rfl,hs,by trivial⟩
   | true =>
    have h1 := HB.out rfl
    have h1' : (1 : Int) ≤ (s.size : Int) := by omega
    go_wp2_with fail
    go_meet
    exact ⟨_,rfl,by simp; omega,by trivial⟩
  case rest =>
   clear HB hs
   obtain ⟨t,rfl,hs,hwc⟩ := hcut
   obtain rfl : w = wc := hwc.symm
   go_upto_region 6 with fail
   go_cut [46] from 21 to 45 (fun s46 wy => ∃ b : Bool,s46 = .bool b ∧ wy = w ∧ Hid (b = true → 2 ≤ t.size))
   case first =>
    by_cases h1 : 2 ≤ t.size
    ·have h1' : (2 : Int) ≤ (t.size : Int) := by omega
     have h1n : 0 < t.size := by omega
     have h1z : (0 : Int) < (t.size : Int) := by omega
     have h2n : 1 < t.size := by omega
     have h2z : (1 : Int) < (t.size : Int) := by omega
     obtain ⟨c,hc⟩ : ∃ c,t[0] = c := ⟨_,rfl⟩
     have c255 : c.toNat < 256 := c.toNat_lt
     by_cases a1 : c.toNat = 48
     ·have a1' : ((c.toNat : Int) == 48) = true := by rw [beq_iff_eq]; omega
      obtain ⟨d,hd⟩ : ∃ c,t[1] = c := ⟨_,rfl⟩
      have d255 : d.toNat < 256 := d.toNat_lt
      have hl := hlow d.toNat d255
      obtain ⟨x,hx2⟩ : ∃ x,Hid (d.toNat ||| 32 = x) := ⟨_,Lib.hid rfl⟩
      rw [hx2.out] at hl
      clear a1
      by_cases a2 : x = 98
      ·have a2' : ((x : Int) == 98) = true := by rw [beq_iff_eq]; omega
       clear a2
       go_wp2_with fail
       refine (hl _).mono ?_
       rintro e w' ⟨rfl,rfl⟩
       go_wp2_with fail
       go_meet
       exact ⟨_,rfl,by trivial,Lib.hid (fun _ => h1)⟩
      ·have a2' : ((x : Int) == 98) = false := by rw [beq_eq_false_iff_ne]; omega
       by_cases a3 : x = 111
       ·have a3' : ((x : Int) == 111) = true := by rw [beq_iff_eq]; omega
        clear a3
        go_wp2_with fail
        refine (hl _).mono ?_
        rintro e w' ⟨rfl,rfl⟩
        go_wp2_with fail
        refine (hl _).mono ?_
        rintro e w' ⟨rfl,rfl⟩
        go_wp2_with fail
        go_meet
        exact ⟨_,rfl,by trivial,Lib.hid (fun _ => h1)⟩
       ·have a3' : ((x : Int) == 111) = false := by rw [beq_eq_false_iff_ne]; omega
        go_wp2_with fail
        refine (hl _).mono ?_
        rintro e w' ⟨rfl,rfl⟩
        go_wp2_with fail
        refine (hl _).mono ?_
        rintro e w' ⟨rfl,rfl⟩
        go_wp2_with fail
        refine (hl _).mono ?_
        rintro e w' ⟨rfl,rfl⟩
        go_wp2_with fail
        go_meet
        exact ⟨_,rfl,by trivial,Lib.hid (fun _ => h1)⟩
     ·have a1' : ((c.toNat : Int) == 48) = false := by rw [beq_eq_false_iff_ne]; omega
      go_wp2_with fail
      go_meet
      exact ⟨_,rfl,by trivial,Lib.hid (fun _ => h1)⟩
    ·have h1' : decide ((2 : Int) ≤ (t.size : Int)) = false := by simp; omega
     have h1n : decide (2 ≤ t.size) = false := decide_eq_false h1
     have h1z : (t.size : Int) < 2 := by omega
     go_wp2_with fail
     go_meet
     exact ⟨false,rfl,by trivial,Lib.hid (fun h => absurd h (by decide))⟩
   case rest =>
    obtain ⟨b,rfl,hwc,HB⟩ := hcut
    obtain rfl : w = wc := hwc.symm
    go_upto_if 46 with fail
    go_cut [3,4,5,46] from 47 to 50 (fun s3 s4 s5 _ wy => ∃ (saw : Int) (i : Nat) (hex : Bool),s3 = .int .i32 saw ∧ s4 = .int .i64 i ∧ s5 = .bool hex ∧ i ≤ t.size ∧ wy = w)
    case first =>
     cases b with
     | false =>
      go_wp2_with fail
      go_meet
      exact ⟨94,0,false,rfl,rfl,rfl,by omega,by trivial⟩
     | true =>
      have h1 := HB.out rfl
      have h2n : 1 < t.size := by omega
      have h2z : (1 : Int) < (t.size : Int) := by omega
      obtain ⟨d,hd⟩ : ∃ c,t[1] = c := ⟨_,rfl⟩
      have d255 : d.toNat < 256 := d.toNat_lt
      have hl := hlow d.toNat d255
      obtain ⟨x,hx2⟩ : ∃ x,Hid (d.toNat ||| 32 = x) := ⟨_,Lib.hid rfl⟩
      rw [hx2.out] at hl
      go_wp2_with fail
      refine (hl _).mono ?_
      rintro e w' ⟨rfl,rfl⟩
      go_wp2_with fail
      go_meet
      exact ⟨48,2,_,rfl,rfl,rfl,h1,by trivial⟩
    case rest =>
     clear HB
     obtain ⟨saw0,i0,hex,rfl,rfl,rfl,hi0,hwc⟩ := hcut
     obtain rfl : w = wc := hwc.symm
     go_upto_block 0 with fail
     go_cut [3,4] from 51 to 91 (fun s3 s4 wy => ∃ (saw : Int) (i : Nat),s3 = .int .i32 saw ∧ s4 = .int .i64 i ∧ wy = w)
     case first =>
      go_wp2_with fail
      go_loopw [3,4] (fun s3 s4 wr => ∃ (saw : Int) (i : Nat),s3 = .int .i32 saw ∧ s4 = .int .i64 i ∧ i ≤ t.size ∧ wr = w) (fun _ s4 _ => t.size - (intOf s4).toNat)
      case atStart => exact ⟨saw0,i0,rfl,rfl,hi0,by trivial⟩
      case round =>
       clear hi0
       obtain ⟨saw,i,rfl,rfl,hi,hwr⟩ := hrel
       obtain rfl : w = wr := hwr.symm
       by_cases his : i < t.size
       ·have his' : (i : Int) < (t.size : Int) := by omega
        obtain ⟨c,hc⟩ : ∃ c,t[i] = c := ⟨_,rfl⟩
        have c255 : c.toNat < 256 := c.toNat_lt
        have hl := hlow c.toNat c255
        obtain ⟨x,hx2⟩ : ∃ x,Hid (c.toNat ||| 32 = x) := ⟨_,Lib.hid rfl⟩
        rw [hx2.out] at hl
        go_upto_region 12 with fail
        go_cut [83] from 57 to 82 (fun s83 wy => ∃ b : Bool,s83 = .bool b ∧ wy = w)
        case first =>
         by_cases b1 : 48 ≤ c.toNat
         ·have b1' : (48 : Int) ≤ (c.toNat : Int) := by omega
          by_cases b2 : c.toNat ≤ 57
          ·have b2' : (c.toNat : Int) ≤ 57 := by omega
           go_wp2_with fail
           go_meet
           exact ⟨_,rfl,by trivial⟩
          ·have b2' : decide ((c.toNat : Int) ≤ 57) = false := by simp; omega
           have b2'' : (57 : Int) < (c.toNat : Int) := by omega
           cases hex with
           | false =>
            go_wp2_with fail
            go_meet
            exact ⟨_,rfl,by trivial⟩
           | true =>
           by_cases b3 : 97 ≤ x
           ·have b3' : (97 : Int) ≤ (x : Int) := by omega
            go_wp2_with fail
            refine (hl _).mono ?_
            rintro e w' ⟨rfl,rfl⟩
            go_wp2_with fail
            refine (hl _).mono ?_
            rintro e w' ⟨rfl,rfl⟩
            go_wp2_with fail
            go_meet
            exact ⟨_,rfl,by trivial⟩
           ·have b3' : decide ((97 : Int) ≤ (x : Int)) = false := by simp; omega
            have b3'' : (x : Int) < 97 := by omega
            go_wp2_with fail
            refine (hl _).mono ?_
            rintro e w' ⟨rfl,rfl⟩
            go_wp2_with fail
            go_meet
            exact ⟨_,rfl,by trivial⟩
         ·have b1' : decide ((48 : Int) ≤ (c.toNat : Int)) = false := by simp; omega
          have b1'' : (c.toNat : Int) < 48 := by omega
          cases hex with
          | false =>
           go_wp2_with fail
           go_meet
           exact ⟨_,rfl,by trivial⟩
          | true =>
          by_cases b3 : 97 ≤ x
          ·have b3' : (97 : Int) ≤ (x : Int) := by omega
           go_wp2_with fail
           refine (hl _).mono ?_
           rintro e w' ⟨rfl,rfl⟩
           go_wp2_with fail
           refine (hl _).mono ?_
           rintro e w' ⟨rfl,rfl⟩
           go_wp2_with fail
           go_meet
           exact ⟨_,rfl,by trivial⟩
          ·have b3' : decide ((97 : Int) ≤ (x : Int)) = false := by simp; omega
           have b3'' : (x : Int) < 97 := by omega
           go_wp2_with fail
           refine (hl _).mono ?_
           rintro e w' ⟨rfl,rfl⟩
           go_wp2_with fail
           go_meet
           exact ⟨_,rfl,by trivial⟩
        case rest =>
         obtain ⟨b,rfl,hwc⟩ := hcut
         obtain rfl : w = wc := hwc.symm
         cases b with
         | true =>
          go_wp2_with fail
          exact ⟨⟨48,i + 1,rfl,rfl,his,by trivial⟩,by simp [intOf] <;> omega⟩
         | false =>
          by_cases u1 : c.toNat = 95
          ·have u1' : ((c.toNat : Int) == 95) = true := by rw [beq_iff_eq]; omega
           clear u1
           by_cases u2 : saw = 48
           ·have u2' : (saw == 48) = true := by rw [beq_iff_eq]; exact u2
            clear u2
            go_wp2_with fail
            exact ⟨⟨95,i + 1,rfl,rfl,his,by trivial⟩,by simp [intOf] <;> omega⟩
           ·have u2' : (saw == 48) = false := by rw [beq_eq_false_iff_ne]; exact u2
            go_wp2_with fail
            go_ret
            exact ⟨_,rfl,⟨_,rfl⟩,by trivial⟩
          ·have u1' : ((c.toNat : Int) == 95) = false := by rw [beq_eq_false_iff_ne]; omega
           by_cases u2 : saw = 95
           ·have u2' : (saw == 95) = true := by rw [beq_iff_eq]; exact u2
            clear u2
            go_wp2_with fail
            go_ret
            exact ⟨_,rfl,⟨_,rfl⟩,by trivial⟩
           ·have u2' : (saw == 95) = false := by rw [beq_eq_false_iff_ne]; exact u2
            go_wp2_with fail
            exact ⟨⟨33,i + 1,rfl,rfl,his,by trivial⟩,by simp [intOf] <;> omega⟩
       ·have his' : decide ((i : Int) < (t.size : Int)) = false := by simp; omega
        have his2 : t.size ≤ i := by omega
        go_wp2_with fail
        go_meet
        exact ⟨saw,i,rfl,rfl,by trivial⟩
     case rest =>
      obtain ⟨saw,i,rfl,rfl,hwc⟩ := hcut
      obtain rfl : w = wc := hwc.symm
      go_wp2_with fail
      go_ret
      exact ⟨_,rfl,⟨_,rfl⟩,by trivial⟩
end Go.Proofs.YtalaajniammggaaGreatDoor

/- atofHex answers, whatever it is given. -/
namespace Go.Proofs.YtalaajniammggaaGreatDoor
open Go.RowKit
theorem half_kept (m : Nat) (hm : m < 18446744073709551616) : ∃ q : Nat,bits .or .u64 ((m : Int) / 2) (bits .and .u64 (m : Int) 1) = (q : Int) ∧ q < 18446744073709551616 ∧ (2 ≤ m → q < m) := by
 have e1 := u64_and_nat m 1 hm (by decide)
 have e1' : bits .and .u64 (m : Int) 1 = ((m &&& 1 : Nat) : Int) := e1
 have h1 : m &&& 1 = m % 2 := Nat.and_one_is_mod m
 rw [e1',h1]
 have e2 := u64_or_nat (m / 2) (m % 2) (by omega) (by omega)
 refine ⟨m / 2 ||| m % 2,by rw [← e2]; push_cast; rfl,Nat.or_lt_two_pow (n := 64) (by omega) (by omega),fun h => ?_⟩
 rcases Nat.mod_two_eq_zero_or_one m with h0 | h0
 ·rw [h0,Nat.or_zero]; omega
 ·rw [h0]
  have h2 : m / 2 ||| 1 ≤ m / 2 + 1 := by
   have e := Nat.shiftRight_or_distrib (a := m / 2) (b := 1) (i := 1)
   simp only [Nat.shiftRight_succ,Nat.shiftRight_zero] at e
   rw [show 1 / 2 = 0 by decide,Nat.or_zero] at e
   omega
  by_cases h3 : m = 3
  ·subst h3; decide
  ·omega
def Blk (w : World) : Prop := ∃ (ca cb : Array Value) (ta tb : TypeId),w.heap[13]? = some (.cells ca ta (0,0)) ∧ w.heap[12]? = some (.cells cb tb (0,0))
theorem Blk.kept {B : Nat} {w w' : World} (h : Blk w) (hB : 13 < B) (b : Below B w w') : Blk w' := by
 obtain ⟨ca,cb,ta,tb,h9,h8⟩ := h
 exact ⟨ca,cb,ta,tb,(b.block 13 hB).trans h9,(b.block 12 (by omega)).trans h8⟩
theorem Blk.eql {w : World} (h : Blk w) : (binOp .eql 219 (.pointer (some ⟨13,0,none⟩)) (.pointer (some ⟨12,0,none⟩))).run Tryz.prog w = .ok (.bool false) w := by
 obtain ⟨ca,cb,ta,tb,h9,h8⟩ := h
 have hp : Tryz.prog.underlying 219 = some (.pointer 221) := by kernel_rfl
 obtain ⟨j,hj⟩ : ∃ j,Tryz.prog.info? 221 = some j := Option.isSome_iff_exists.1 (by kernel_rfl)
 have hz : j.size ≠ 0 := by
  have e : (Tryz.prog.info? 221).map (fun j => j.size != 0) = some true := by kernel_rfl
  rw [hj] at e
  simpa using e
 exact run_eql_ptr_other w hp hj hz (by decide) h9 h8
set_option maxRecDepth 100000 in
set_option maxHeartbeats 4000000 in
theorem hex_any (s : ByteArray) (m : Nat) (hm : m < 18446744073709551616) (x : Int) (hx1 : -1152921504606846976 ≤ x) (hx2 : x ≤ 1152921504606846976) (neg tr : Bool) (w : World) (S : Slow w) (G : Blk w) :
  Calls Tryz.prog 178 #[.string s,.pointer (some ⟨13,0,none⟩),.int .u64 m,.int .i64 x,.bool neg,.bool tr] w fun e w' => ∃ (f k : Nat),k ≤ 1 ∧ e = .returned (.tuple #[.float .f64 f,errV k]) ∧ Below w.heap.size w w' := by
 have SS := Lib.hid S
 have GG := Lib.hid G
 have h9 : 13 < w.heap.size := World.block_lt_of_cell? w _ S.i0
 have H9 := Lib.hid h9
 clear G h9
 have i0 := S.i0
 have i1 := S.i1
 have i2 := S.i2
 have c153 := call153
 clear S
 go_enter Tryz.func178,Tryz.ntmps178
 go_wp2_with fail
 go_quiet (fail)
 go_upto_block 0 with fail
 go_cut [2,3] from 42 to 57 (fun s2 s3 wy => ∃ (m : Nat) (x : Int),s2 = .int .u64 m ∧ s3 = .int .i64 x ∧ m < 18446744073709551616 ∧ Hid (Slow wy ∧ Below w.heap.size w wy))
 case first =>
  go_wp2_with fail
  go_loopw [2,3] (fun s2 s3 wr => ∃ (m : Nat) (x : Int),s2 = .int .u64 m ∧ s3 = .int .i64 x ∧ m < 18446744073709551616 ∧ Hid (Slow wr ∧ Below w.heap.size w wr)) (fun s2 _ _ => 18446744073709551616 - (intOf s2).toNat)
  case atStart =>
   have b := below_drewN (Below.refl w.heap.size w) nq
   exact ⟨m,_,rfl,rfl,hm,Lib.hid ⟨SS.out.kept b,b⟩⟩
  case round =>
   clear SS i0 i1 i2 hm hx1 hx2
   obtain ⟨m,x,rfl,rfl,hm,HS⟩ := hrel
   have i0 := HS.out.1.i0
   by_cases a1 : m = 0
   ·have a1' : ((m : Int) != 0) = false := by rw [a1]; rfl
    have a1'' : ((m : Int) == 0) = true := by rw [a1]; rfl
    clear a1
    go_wp2_with fail
    go_meet
    exact ⟨m,x,rfl,rfl,hm,HS⟩
   ·have a1' : ((m : Int) != 0) = true := by simp; omega
    have a1'' : ((m : Int) == 0) = false := by rw [beq_eq_false_iff_ne]; omega
    by_cases a2 : m < 18014398509481984
    ·have a2' : ((m : Int) / 18014398509481984 == 0) = true := by rw [beq_iff_eq]; omega
     obtain ⟨q,hq⟩ : ∃ q,Hid (m * 2 = q) := ⟨_,Lib.hid rfl⟩
     have eq : IntKind.u64.wrap ((m : Int) * 2) = (q : Int) := by rw [wrap_u64,← hq.out]; omega
     have q1 : q < 18446744073709551616 ∧ m < q := by have := hq.out; omega
     obtain ⟨q1,q2⟩ := q1
     clear a2 hq
     go_wp2_with fail
     exact ⟨⟨q,_,rfl,rfl,q1,HS⟩,by simp [intOf] <;> omega⟩
    ·have a2' : ((m : Int) / 18014398509481984 == 0) = false := by rw [beq_eq_false_iff_ne]; omega
     go_wp2_with fail
     go_meet
     exact ⟨m,x,rfl,rfl,hm,HS⟩
 case rest =>
  clear SS i0 i1 i2 hm hx1 hx2
  obtain ⟨m,x,rfl,rfl,hm,HS⟩ := hcut
  go_upto_if 58 with fail
  go_cut [2,58] from 59 to 60 (fun s2 _ wy => ∃ (m : Nat),s2 = .int .u64 m ∧ m < 18446744073709551616 ∧ Hid (Slow wy ∧ Below w.heap.size w wy))
  case first =>
   cases tr with
   | true =>
    have e1 : bits .or .u64 (m : Int) 1 = ((m ||| 1 : Nat) : Int) := u64_or_nat m 1 hm (by decide)
    have e2 : m ||| 1 < 18446744073709551616 := Nat.or_lt_two_pow (n := 64) hm (by decide)
    obtain ⟨q,hq⟩ : ∃ q,Hid (m ||| 1 = q) := ⟨_,Lib.hid rfl⟩
    rw [hq.out] at e1 e2
    go_wp2_with fail
    go_meet
    exact ⟨q,rfl,e2,HS⟩
   | false =>
    go_wp2_with fail
    go_meet
    exact ⟨m,rfl,hm,HS⟩
  case rest =>
   clear hm HS
   obtain ⟨m,rfl,hm,HS⟩ := hcut
   go_upto_block 2 with fail
   go_cut [2,3] from 61 to 76 (fun s2 s3 wy => ∃ (m : Nat) (x : Int),s2 = .int .u64 m ∧ s3 = .int .i64 x ∧ m < 36028797018963968 ∧ Hid (Slow wy ∧ Below w.heap.size w wy))
   case first =>
    go_wp2_with fail
    go_loopw [2,3] (fun s2 s3 wr => ∃ (m : Nat) (x : Int),s2 = .int .u64 m ∧ s3 = .int .i64 x ∧ m < 18446744073709551616 ∧ Hid (Slow wr ∧ Below w.heap.size w wr)) (fun s2 _ _ => (intOf s2).toNat)
    case atStart => exact ⟨m,_,rfl,rfl,hm,HS⟩
    case round =>
     clear hm HS
     obtain ⟨m,x,rfl,rfl,hm,HS⟩ := hrel
     have i0 := HS.out.1.i0
     obtain ⟨q,eq,q1,q2⟩ := half_kept m hm
     by_cases a2 : m < 36028797018963968
     ·have a2' : ((m : Int) / 36028797018963968 != 0) = false := by simp; omega
      have a2'' : ((m : Int) / 36028797018963968 == 0) = true := by rw [beq_iff_eq]; omega
      clear eq
      go_wp2_with fail
      go_meet
      exact ⟨m,x,rfl,rfl,a2,HS⟩
     ·have a2' : ((m : Int) / 36028797018963968 != 0) = true := by simp; omega
      have a2'' : ((m : Int) / 36028797018963968 == 0) = false := by rw [beq_eq_false_iff_ne]; omega
      have q3 := q2 (by omega)
      clear q2
      go_wp2_with fail
      exact ⟨⟨q,_,rfl,rfl,q1,HS⟩,by simp [intOf] <;> omega⟩
   case rest =>
    clear hm HS
    obtain ⟨m,x,rfl,rfl,hm,HS⟩ := hcut
    go_upto_block 4 with fail
    go_cut [2,3] from 77 to 91 (fun s2 s3 wy => ∃ (m : Nat) (x : Int),s2 = .int .u64 m ∧ s3 = .int .i64 x ∧ m < 36028797018963968 ∧ Hid (Slow wy ∧ Below w.heap.size w wy))
    case first =>
     go_wp2_with fail
     go_loopw [2,3] (fun s2 s3 wr => ∃ (m : Nat) (x : Int),s2 = .int .u64 m ∧ s3 = .int .i64 x ∧ m < 36028797018963968 ∧ Hid (Slow wr ∧ Below w.heap.size w wr)) (fun s2 _ _ => (intOf s2).toNat)
     case atStart => exact ⟨m,_,rfl,rfl,hm,HS⟩
     case round =>
      clear hm HS
      obtain ⟨m,x,rfl,rfl,hm,HS⟩ := hrel
      obtain ⟨q,eq,q1,q2⟩ := half_kept m (by omega)
      by_cases a2 : 1 < m
      ·have a2' : (1 : Int) < (m : Int) := by omega
       have q3 := q2 (by omega)
       by_cases a3 : x < -1024
       ·clear q2
        go_wp2_with fail
        exact ⟨⟨q,_,rfl,rfl,by omega,HS⟩,by simp [intOf] <;> omega⟩
       ·have a3' : decide (x < -1024) = false := by simp; omega
        have a3'' : -1024 ≤ x := by omega
        go_wp2_with fail
        go_meet
        exact ⟨m,x,rfl,rfl,hm,HS⟩
      ·have a2' : decide ((1 : Int) < (m : Int)) = false := by simp; omega
       have a2'' : (m : Int) ≤ 1 := by omega
       go_wp2_with fail
       go_meet
       exact ⟨m,x,rfl,rfl,hm,HS⟩
    case rest =>
     clear hm HS
     obtain ⟨m,x,rfl,rfl,hm,HS⟩ := hcut
     obtain ⟨r1,e1⟩ : ∃ r,bits .and .u64 (m : Int) 3 = r := ⟨_,rfl⟩
     obtain ⟨p,hp⟩ : ∃ p,Hid (m / 4 = p) := ⟨_,Lib.hid rfl⟩
     have ep : (m : Int) / 4 = (p : Int) := by have := hp.out; omega
     have pb : p < 9007199254740992 := by have := hp.out; omega
     obtain ⟨r2,e2⟩ : ∃ r,bits .and .u64 (p : Int) 1 = r := ⟨_,rfl⟩
     obtain ⟨r,e3⟩ : ∃ r,bits .or .u64 r1 r2 = r := ⟨_,rfl⟩
     clear hp
     go_upto_if 103 with fail
     clear ep e1 e2 e3
     go_cut [2,3,103] from 104 to 117 (fun s2 s3 _ wy => ∃ (m : Nat) (x : Int),s2 = .int .u64 m ∧ s3 = .int .i64 x ∧ m < 18014398509481984 ∧ Hid (Slow wy ∧ Below w.heap.size w wy))
     case first =>
      have i0 := HS.out.1.i0
      by_cases a1 : r = 3
      ·have a1' : (r == 3) = true := by rw [beq_iff_eq]; exact a1
       clear a1
       obtain ⟨q,hq⟩ : ∃ q,Hid (p + 1 = q) := ⟨_,Lib.hid rfl⟩
       have eq : (p : Int) + 1 = (q : Int) := by have := hq.out; omega
       have qb : q ≤ 9007199254740992 := by have := hq.out; omega
       by_cases a2 : q = 9007199254740992
       ·have a2' : ((q : Int) == 9007199254740992) = true := by rw [beq_iff_eq]; omega
        obtain ⟨z,hz⟩ : ∃ z,Hid (q / 2 = z) := ⟨_,Lib.hid rfl⟩
        have ez : (q : Int) / 2 = (z : Int) := by have := hz.out; omega
        have zb : z < 18014398509481984 := by have := hz.out; omega
        clear a2 hq hz
        go_wp2_with fail
        go_meet
        exact ⟨z,_,rfl,rfl,zb,HS⟩
       ·have a2' : ((q : Int) == 9007199254740992) = false := by rw [beq_eq_false_iff_ne]; omega
        clear hq
        go_wp2_with fail
        go_meet
        exact ⟨q,_,rfl,rfl,by omega,HS⟩
      ·have a1' : (r == 3) = false := by rw [beq_eq_false_iff_ne]; exact a1
       go_wp2_with fail
       go_meet
       exact ⟨p,_,rfl,rfl,by omega,HS⟩
     case rest =>
      clear hm HS pb
      obtain ⟨m,x,rfl,rfl,hm,HS⟩ := hcut
      have i0 := HS.out.1.i0
      have i1 := HS.out.1.i1
      have i2 := HS.out.1.i2
      go_upto_if 124 with fail
      go_cut [3,124] from 125 to 128 (fun s3 _ wy => ∃ (x : Int),s3 = .int .i64 x ∧ Hid (Slow wy ∧ Below w.heap.size w wy))
      case first =>
       by_cases a1 : m < 4503599627370496
       ·have a1' : ((m : Int) / 4503599627370496 == 0) = true := by rw [beq_iff_eq]; omega
        go_wp2_with fail
        go_meet
        exact ⟨_,rfl,HS⟩
       ·have a1' : ((m : Int) / 4503599627370496 == 0) = false := by rw [beq_eq_false_iff_ne]; omega
        go_wp2_with fail
        go_meet
        exact ⟨_,rfl,HS⟩
      case rest =>
       clear HS i0 i1 i2
       obtain ⟨x,rfl,HS⟩ := hcut
       have i0 := HS.out.1.i0
       have i1 := HS.out.1.i1
       have i2 := HS.out.1.i2
       go_upto_if 131 with fail
       go_cut [2,3,17,131] from 132 to 139 (fun s2 s3 s17 _ wy => ∃ (m : Nat) (x : Int) (k : Nat),s2 = .int .u64 m ∧ s3 = .int .i64 x ∧ s17 = errV k ∧ k ≤ 1 ∧ m < 18014398509481984 ∧ Hid (Slow wy ∧ Below w.heap.size w wy))
       case first =>
        by_cases a1 : 1023 < x
        ·go_wp2_with fail
         go_meet
         exact ⟨4503599627370496,_,1,rfl,rfl,rfl,by omega,by omega,HS⟩
        ·have a1' : decide (1023 < x) = false := by simp; omega
         have a1'' : x ≤ 1023 := by omega
         go_wp2_with fail
         go_meet
         exact ⟨m,_,0,rfl,rfl,rfl,by omega,hm,HS⟩
       case rest =>
        clear HS i0 i1 i2 hm
        obtain ⟨m,x,k,rfl,rfl,hk,k1,hm,HS⟩ := hcut
        subst hk
        have i0 := HS.out.1.i0
        have i1 := HS.out.1.i1
        have i2 := HS.out.1.i2
        obtain ⟨er,her⟩ : ∃ v,Hid (errV k = v) := ⟨_,Lib.hid rfl⟩
        rw [her.out]
        obtain ⟨r1,e1⟩ : ∃ r,bits .and .u64 (m : Int) 4503599627370495 = r := ⟨_,rfl⟩
        have q1 := fun n => (GG.out.kept H9.out (below_drewN HS.out.2 n)).eql
        have q2 := fun n k => (GG.out.kept H9.out (below_drewN (below_drewN HS.out.2 n) k)).eql
        go_wp2_with fail
        go_quiet (fail)
        cases neg with
        | true =>
         go_wp2_with fail
         go_quiet (fail)
         go_wp2_with fail
         go_ret2
         exact ⟨_,k,k1,by rw [her.out]; rfl,by repeat (first | exact HS.out.2 | refine below_drewN ?_ _)⟩
        | false =>
         go_wp2_with fail
         go_ret2
         exact ⟨_,k,k1,by rw [her.out]; rfl,by repeat (first | exact HS.out.2 | refine below_drewN ?_ _)⟩
end Go.Proofs.YtalaajniammggaaGreatDoor
