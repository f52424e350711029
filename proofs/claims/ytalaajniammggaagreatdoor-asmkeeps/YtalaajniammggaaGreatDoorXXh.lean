/- Hexadecimal digits, read by the library. -/
import Derived.Test.YtalaajniammggaaGreatDoorXXg
import Derived.Lib.ConvBytes
import Derived.Shelf.Small.Wraps
import Derived.Shelf.Strconv.Atoi
import Derived.Shelf.Strconv.Itoa0
import Derived.Shelf.Strconv.Itoa1
import Derived.Shelf.LaysM
import Derived.Shelf.Strconv.Itoa2
import Derived.Shelf.Strconv.Itoa3
import Derived.Shelf.Strconv.AtoiErrFast
import Derived.Shelf.Strconv.ParseIntEmpty
import Derived.Shelf.Strconv.AtoiFail
import Derived.Shelf.Strconv.Clone
import Derived.Shelf.Strconv.SyntaxError
import Derived.Shelf.LaysC
import Derived.Shelf.Strconv.ToError
import Derived.Shelf.Strconv.Lower
import Derived.Shelf.Strconv.ParseUint10
import Derived.Shelf.Strconv.ParseUint10Empty
import Derived.Shelf.Strconv.ParseUint10Any
import Derived.Shelf.Strconv.ParseInt10
import Derived.Shelf.Strconv.AtoiLong
import Derived.Shelf.Strconv.AtoiInnerAll
import Derived.Shelf.Strconv.RangeError
import Derived.Shelf.Strconv.ToErrorRange
import Derived.Shelf.Strconv.AtoiAll
import Derived.Shelf.Strings.Search1
import Derived.Shelf.Strings.Search2
import Derived.Shelf.Strings.Search3
import Derived.Shelf.Strings.Cut
import Derived.Shelf.Strings.Count
import Derived.Shelf.Strings.Shaped
import Derived.Shelf.Strings.Prefix
import Derived.Shelf.Bits.Mul64
import Derived.Test.YtalaajniammggaaGreatDoorProg
namespace Go.Proofs.YtalaajniammggaaGreatDoor
open Go.RowKit
theorem lower_any (c : Nat) (hc : c < 256) (w : World) : Calls Tryz.prog 135 #[.int .u8 c] w fun e w' => e = .returned (.int .u8 (c ||| 32 : Nat)) ∧ w' = w := by
 have h := u8_or_nat c 32 hc (by omega)
 have h' : bits .or .u8 (c : Int) 32 = ((c ||| 32 : Nat) : Int) := h
 generalize c ||| 32 = d at *
 go_enter Tryz.func135,Tryz.ntmps135
 go_wp2
 go_ret
 exact ⟨rfl,rfl⟩
def dgV (c : Nat) : Nat := if 48 ≤ c ∧ c ≤ 57 then c - 48 else if 97 ≤ c ||| 32 ∧ c ||| 32 ≤ 122 then (c ||| 32) - 87 else 99
def puL : List UInt8 → Nat → Nat × Nat
 | [],n => (n,0)
 | c :: l,n => if 16 ≤ dgV c.toNat then (0,2) else if 1152921504606846976 ≤ n then (18446744073709551615,1) else puL l (n * 16 + dgV c.toNat)
def errV (k : Nat) : Value := if k = 0 then .nilIface else .iface 153 (.int .i64 k)
theorem puL_drop (l : List UInt8) (i n : Nat) (h : i < l.length) : puL (l.drop i) n = if 16 ≤ dgV (l[i]).toNat then (0,2) else if 1152921504606846976 ≤ n then (18446744073709551615,1) else puL (l.drop (i + 1)) (n * 16 + dgV (l[i]).toNat) := by
 rw [List.drop_eq_getElem_cons h]
 rfl
theorem or32_lt (c : Nat) (h : c < 256) : c ||| 32 < 256 := Nat.or_lt_two_pow (n := 8) h (by decide)
set_option maxRecDepth 100000 in
set_option maxHeartbeats 4000000 in
theorem parseUint_in (s : ByteArray) (hs : s.size ≤ 140737488355328) (hne : s.data.toList ≠ []) (w : World) :
  Calls Tryz.prog 126 #[.string s,.int .i64 16,.int .i64 64] w fun e w' => e = .returned (.tuple #[.int .u64 (puL s.data.toList 0).1,errV (puL s.data.toList 0).2]) ∧ Below w.heap.size w w' := by
 obtain ⟨R,hR⟩ : ∃ R,Hid (puL s.data.toList 0 = R) := ⟨_,rfl⟩
 rw [hR.out]
 have hne' : (s.toList == ([] : List UInt8)) = false := by
  rw [Lib.toList_data]
  simpa using hne
 have hcv := Lib.run_convert_string_bytes (P := Tryz.prog) w 9 43 5 s Tryz.underlying9 Tryz.underlying43 Tryz.underlying5
 have hB : ∀ j,j < s.size → (Lib.bytesWorld w 5 s).cell? ⟨w.heap.size,j,none⟩ = some (.int .u8 (s.data.toList.getD j 0).toNat) := fun j hj => Lib.bytesWorld_cell w 5 s j hj
 have bW := Lib.bytesWorld_below w 5 s
 obtain ⟨W,hW⟩ : ∃ W,W = Lib.bytesWorld w 5 s := ⟨_,rfl⟩
 rw [← hW] at hcv hB bW
 clear hW
 obtain ⟨cp,hcp⟩ : ∃ c,Hid (grownCap w s.size 0 5 = c) := ⟨_,rfl⟩
 rw [hcp.out] at hcv
 have HB := Lib.hid hB
 clear hB
 have hmv : IntKind.u64.wrap (IntKind.u64.wrap 18446744073709551616 - 1) = 18446744073709551615 := by
  rw [wrap_u64,wrap_u64]
  decide
 have hsl : s.data.toList.length = s.size := size_list s
 go_enter Tryz.func126,Tryz.ntmps126
 go_wp2_with fail
 go_loopw [12,13,101] (fun v12 v13 v101 wr => ∃ (k acc : Nat) (a : Int),v12 = .bool false ∧ v13 = .int .u64 a ∧ v101 = .int .i64 k ∧ k ≤ s.size ∧ Hid (a = (acc : Int) ∧ acc < 18446744073709551616 ∧ R = puL (s.data.toList.drop k) acc) ∧ wr = W) (fun _ _ v101 _ => s.size - (intOf v101).toNat)
 case atStart => exact ⟨0,0,0,rfl,rfl,rfl,Nat.zero_le _,Lib.hid ⟨rfl,by omega,by rw [← hR.out]; rfl⟩,rfl⟩
 case round =>
  obtain ⟨k,acc,a,rfl,rfl,rfl,hk,HH,rfl⟩ := hrel
  by_cases hlt : k < s.size
  ·have hlt' : (k : Int) < (s.size : Int) := by omega
   have hc := HB.out k hlt
   have hdr := puL_drop s.data.toList k acc (by rw [hsl]; exact hlt)
   have hget : s.data.toList.getD k 0 = s.data.toList[k]'(by rw [hsl]; exact hlt) := by simp [List.getD_eq_getElem?_getD,hsl,hlt]
   rw [hget] at hc
   generalize s.data.toList[k]'(by rw [hsl]; exact hlt) = c at hc hdr
   have c255 : c.toNat < 256 := c.toNat_lt
   generalize c.toNat = x at *
   have HD := Lib.hid hdr
   obtain ⟨ea,acc64,eR⟩ := HH.out
   have a0 : 0 ≤ a := by omega
   have a1 : a < 18446744073709551616 := by omega
   have LO := fun W => lower_any x c255 W
   have lt32 := or32_lt x c255
   obtain ⟨m,hm⟩ : ∃ m,Hid (x ||| 32 = m) := ⟨_,rfl⟩
   rw [hm.out] at LO lt32
   clear hget hdr
   have EA := Lib.hid ea
   have ER := Lib.hid eR
   clear ea eR HH
   by_cases h95 : x = 95
   ·subst h95
    have m127 : m = 127 := hm.out.symm
    subst m127
    have DV : Hid (dgV 95 = 99) := Lib.hid (by decide)
    have ER2 : Hid (R = (0,2)) := Lib.hid (by rw [ER.out,HD.out,if_pos (by rw [DV.out]; omega)])
    clear HD ER DV hm
    go_wp2_with fail
    refine (LO _).mono ?_
    rintro e w' ⟨rfl,rfl⟩
    go_wp2_with fail
    refine (LO _).mono ?_
    rintro e w' ⟨rfl,rfl⟩
    go_wp2_with fail
    go_ret2
    rw [ER2.out]
    exact ⟨rfl,bW⟩
   ·have d95 : ((x : Int) == 95) = false := by simp; omega
    by_cases h1 : 48 ≤ x
    ·have h1' : (48 : Int) ≤ (x : Int) := by omega
     by_cases h2 : x ≤ 57
     ·have h2' : (x : Int) ≤ 57 := by omega
      have DV : Hid (dgV x = x - 48) := Lib.hid (by unfold dgV; rw [if_pos ⟨h1,h2⟩])
      obtain ⟨dd,hdd⟩ : ∃ d,Hid (x - 48 = d) := ⟨_,rfl⟩
      have edd : (x : Int) - 48 = (dd : Int) := by have := hdd.out; omega
      have ddb : dd < 10 := by have := hdd.out; omega
      have d16 : decide ((16 : Int) ≤ (dd : Int)) = false := by simp; omega
      have DV : Hid (dgV x = dd) := Lib.hid (by rw [DV.out,hdd.out])
      by_cases hcut : 1152921504606846976 ≤ a
      ·have ER2 : Hid (R = (18446744073709551615,1)) := Lib.hid (by rw [ER.out,HD.out,if_neg (by rw [DV.out]; omega),if_pos (by have := EA.out; omega)])
       clear HD ER DV hm
       go_wp2_with fail
       go_ret2
       rw [ER2.out]
       exact ⟨rfl,bW⟩
      ·have hcut' : decide (1152921504606846976 ≤ a) = false := by simp; omega
       have hcut2 : a < 1152921504606846976 := by omega
       have em : a * 16 < 18446744073709551616 := by omega
       obtain ⟨b,hb⟩ : ∃ b : Int,Hid (a * 16 = b) := ⟨_,rfl⟩
       have eb : IntKind.u64.wrap (a * 16) = b := by rw [wrap_u64]; have := hb.out; omega
       have bb : b ≤ 18446744073709551600 ∧ 0 ≤ b := by have := hb.out; omega
       obtain ⟨q,hq⟩ : ∃ q : Int,Hid (b + (dd : Int) = q) := ⟨_,rfl⟩
       have eq : b + (dd : Int) = q := hq.out
       have qb : b ≤ q ∧ q ≤ 18446744073709551615 := by omega
       have qlt : decide (q < b) = false := by simp; omega
       have qgt : decide (18446744073709551615 < q) = false := by simp; omega
       have HH' : Hid (q = ((acc * 16 + dgV x : Nat) : Int) ∧ acc * 16 + dgV x < 18446744073709551616 ∧ R = puL (s.data.toList.drop (k + 1)) (acc * 16 + dgV x)) := Lib.hid (by
        have h1 := EA.out
        have h2 := DV.out
        have h3 := hb.out
        refine ⟨by omega,by omega,?_⟩
        rw [ER.out,HD.out,if_neg (by omega),if_neg (by omega)])
       clear HD ER DV hm EA hb hq
       go_wp2_with fail
       go_roundw
       case rel => exact ⟨k + 1,_,q,by go_num,rfl,by go_num,by omega,HH',trivial⟩
       case measure => simp [intOf]; omega
     ·have h2' : decide ((x : Int) ≤ 57) = false := by simp; omega
      by_cases h97 : 97 ≤ m
      ·have h97' : (97 : Int) ≤ (m : Int) := by omega
       by_cases h122 : m ≤ 122
       ·have h122' : (m : Int) ≤ 122 := by omega
        obtain ⟨dd,hdd⟩ : ∃ d,Hid (m - 87 = d) := ⟨_,rfl⟩
        have DV : Hid (dgV x = dd) := Lib.hid (by unfold dgV; rw [if_neg (by omega),hm.out,if_pos ⟨h97,h122⟩,hdd.out])
        have edd : (m : Int) - 97 + 10 = (dd : Int) := by have := hdd.out; omega
        by_cases h16 : 16 ≤ dd
        ·have d16 : (16 : Int) ≤ (dd : Int) := by omega
         have ER2 : Hid (R = (0,2)) := Lib.hid (by rw [ER.out,HD.out,if_pos (by rw [DV.out]; omega)])
         clear HD ER DV hm
         go_wp2_with fail
         refine (LO _).mono ?_
         rintro e w' ⟨rfl,rfl⟩
         go_wp2_with fail
         refine (LO _).mono ?_
         rintro e w' ⟨rfl,rfl⟩
         go_wp2_with fail
         refine (LO _).mono ?_
         rintro e w' ⟨rfl,rfl⟩
         go_wp2_with fail
         go_ret2
         rw [ER2.out]
         exact ⟨rfl,bW⟩
        ·have d16 : decide ((16 : Int) ≤ (dd : Int)) = false := by simp; omega
         have d16' : (dd : Int) < 16 := by omega
         by_cases hcut : 1152921504606846976 ≤ a
         ·have ER2 : Hid (R = (18446744073709551615,1)) := Lib.hid (by rw [ER.out,HD.out,if_neg (by rw [DV.out]; omega),if_pos (by have := EA.out; omega)])
          clear HD ER DV hm
          go_wp2_with fail
          refine (LO _).mono ?_
          rintro e w' ⟨rfl,rfl⟩
          go_wp2_with fail
          refine (LO _).mono ?_
          rintro e w' ⟨rfl,rfl⟩
          go_wp2_with fail
          refine (LO _).mono ?_
          rintro e w' ⟨rfl,rfl⟩
          go_wp2_with fail
          go_ret2
          rw [ER2.out]
          exact ⟨rfl,bW⟩
         ·have hcut' : decide (1152921504606846976 ≤ a) = false := by simp; omega
          have hcut2 : a < 1152921504606846976 := by omega
          have em : a * 16 < 18446744073709551616 := by omega
          obtain ⟨b,hb⟩ : ∃ b : Int,Hid (a * 16 = b) := ⟨_,rfl⟩
          have eb : IntKind.u64.wrap (a * 16) = b := by rw [wrap_u64]; have := hb.out; omega
          have bb : b ≤ 18446744073709551600 ∧ 0 ≤ b := by have := hb.out; omega
          obtain ⟨q,hq⟩ : ∃ q : Int,Hid (b + (dd : Int) = q) := ⟨_,rfl⟩
          have eq : b + (dd : Int) = q := hq.out
          have qb : b ≤ q ∧ q ≤ 18446744073709551615 := by omega
          have qlt : decide (q < b) = false := by simp; omega
          have qgt : decide (18446744073709551615 < q) = false := by simp; omega
          have HH' : Hid (q = ((acc * 16 + dgV x : Nat) : Int) ∧ acc * 16 + dgV x < 18446744073709551616 ∧ R = puL (s.data.toList.drop (k + 1)) (acc * 16 + dgV x)) := Lib.hid (by
           have h1 := EA.out
           have h2 := DV.out
           have h3 := hb.out
           refine ⟨by omega,by omega,?_⟩
           rw [ER.out,HD.out,if_neg (by omega),if_neg (by omega)])
          clear HD ER DV hm EA hb hq
          go_wp2_with fail
          refine (LO _).mono ?_
          rintro e w' ⟨rfl,rfl⟩
          go_wp2_with fail
          refine (LO _).mono ?_
          rintro e w' ⟨rfl,rfl⟩
          go_wp2_with fail
          refine (LO _).mono ?_
          rintro e w' ⟨rfl,rfl⟩
          go_wp2_with fail
          go_roundw
          case rel => exact ⟨k + 1,_,q,by go_num,rfl,by go_num,by omega,HH',trivial⟩
          case measure => simp [intOf]; omega
       ·have h122' : decide ((m : Int) ≤ 122) = false := by simp; omega
        have DV : Hid (dgV x = 99) := Lib.hid (by unfold dgV; rw [if_neg (by omega),hm.out,if_neg (by omega)])
        have ER2 : Hid (R = (0,2)) := Lib.hid (by rw [ER.out,HD.out,if_pos (by rw [DV.out]; omega)])
        clear HD ER DV hm
        go_wp2_with fail
        refine (LO _).mono ?_
        rintro e w' ⟨rfl,rfl⟩
        go_wp2_with fail
        refine (LO _).mono ?_
        rintro e w' ⟨rfl,rfl⟩
        go_wp2_with fail
        go_ret2
        rw [ER2.out]
        exact ⟨rfl,bW⟩
      ·have h97' : decide ((97 : Int) ≤ (m : Int)) = false := by simp; omega
       have DV : Hid (dgV x = 99) := Lib.hid (by unfold dgV; rw [if_neg (by omega),hm.out,if_neg (by omega)])
       have ER2 : Hid (R = (0,2)) := Lib.hid (by rw [ER.out,HD.out,if_pos (by rw [DV.out]; omega)])
       clear HD ER DV hm
       go_wp2_with fail
       refine (LO _).mono ?_
       rintro e w' ⟨rfl,rfl⟩
       go_wp2_with fail
       go_ret2
       rw [ER2.out]
       exact ⟨rfl,bW⟩
    ·have h1' : decide ((48 : Int) ≤ (x : Int)) = false := by simp; omega
     by_cases h97 : 97 ≤ m
     ·have h97' : (97 : Int) ≤ (m : Int) := by omega
      by_cases h122 : m ≤ 122
      ·have h122' : (m : Int) ≤ 122 := by omega
       obtain ⟨dd,hdd⟩ : ∃ d,Hid (m - 87 = d) := ⟨_,rfl⟩
       have DV : Hid (dgV x = dd) := Lib.hid (by unfold dgV; rw [if_neg (by omega),hm.out,if_pos ⟨h97,h122⟩,hdd.out])
       have edd : (m : Int) - 97 + 10 = (dd : Int) := by have := hdd.out; omega
       by_cases h16 : 16 ≤ dd
       ·have d16 : (16 : Int) ≤ (dd : Int) := by omega
        have ER2 : Hid (R = (0,2)) := Lib.hid (by rw [ER.out,HD.out,if_pos (by rw [DV.out]; omega)])
        clear HD ER DV hm
        go_wp2_with fail
        refine (LO _).mono ?_
        rintro e w' ⟨rfl,rfl⟩
        go_wp2_with fail
        refine (LO _).mono ?_
        rintro e w' ⟨rfl,rfl⟩
        go_wp2_with fail
        refine (LO _).mono ?_
        rintro e w' ⟨rfl,rfl⟩
        go_wp2_with fail
        go_ret2
        rw [ER2.out]
        exact ⟨rfl,bW⟩
       ·have d16 : decide ((16 : Int) ≤ (dd : Int)) = false := by simp; omega
        have d16' : (dd : Int) < 16 := by omega
        by_cases hcut : 1152921504606846976 ≤ a
        ·have ER2 : Hid (R = (18446744073709551615,1)) := Lib.hid (by rw [ER.out,HD.out,if_neg (by rw [DV.out]; omega),if_pos (by have := EA.out; omega)])
         clear HD ER DV hm
         go_wp2_with fail
         refine (LO _).mono ?_
         rintro e w' ⟨rfl,rfl⟩
         go_wp2_with fail
         refine (LO _).mono ?_
         rintro e w' ⟨rfl,rfl⟩
         go_wp2_with fail
         refine (LO _).mono ?_
         rintro e w' ⟨rfl,rfl⟩
         go_wp2_with fail
         go_ret2
         rw [ER2.out]
         exact ⟨rfl,bW⟩
        ·have hcut' : decide (1152921504606846976 ≤ a) = false := by simp; omega
         have hcut2 : a < 1152921504606846976 := by omega
         have em : a * 16 < 18446744073709551616 := by omega
         obtain ⟨b,hb⟩ : ∃ b : Int,Hid (a * 16 = b) := ⟨_,rfl⟩
         have eb : IntKind.u64.wrap (a * 16) = b := by rw [wrap_u64]; have := hb.out; omega
         have bb : b ≤ 18446744073709551600 ∧ 0 ≤ b := by have := hb.out; omega
         obtain ⟨q,hq⟩ : ∃ q : Int,Hid (b + (dd : Int) = q) := ⟨_,rfl⟩
         have eq : b + (dd : Int) = q := hq.out
         have qb : b ≤ q ∧ q ≤ 18446744073709551615 := by omega
         have qlt : decide (q < b) = false := by simp; omega
         have qgt : decide (18446744073709551615 < q) = false := by simp; omega
         have HH' : Hid (q = ((acc * 16 + dgV x : Nat) : Int) ∧ acc * 16 + dgV x < 18446744073709551616 ∧ R = puL (s.data.toList.drop (k + 1)) (acc * 16 + dgV x)) := Lib.hid (by
          have h1 := EA.out
          have h2 := DV.out
          have h3 := hb.out
          refine ⟨by omega,by omega,?_⟩
          rw [ER.out,HD.out,if_neg (by omega),if_neg (by omega)])
         clear HD ER DV hm EA hb hq
         go_wp2_with fail
         refine (LO _).mono ?_
         rintro e w' ⟨rfl,rfl⟩
         go_wp2_with fail
         refine (LO _).mono ?_
         rintro e w' ⟨rfl,rfl⟩
         go_wp2_with fail
         refine (LO _).mono ?_
         rintro e w' ⟨rfl,rfl⟩
         go_wp2_with fail
         go_roundw
         case rel => exact ⟨k + 1,_,q,by go_num,rfl,by go_num,by omega,HH',trivial⟩
         case measure => simp [intOf]; omega
      ·have h122' : decide ((m : Int) ≤ 122) = false := by simp; omega
       have DV : Hid (dgV x = 99) := Lib.hid (by unfold dgV; rw [if_neg (by omega),hm.out,if_neg (by omega)])
       have ER2 : Hid (R = (0,2)) := Lib.hid (by rw [ER.out,HD.out,if_pos (by rw [DV.out]; omega)])
       clear HD ER DV hm
       go_wp2_with fail
       refine (LO _).mono ?_
       rintro e w' ⟨rfl,rfl⟩
       go_wp2_with fail
       refine (LO _).mono ?_
       rintro e w' ⟨rfl,rfl⟩
       go_wp2_with fail
       go_ret2
       rw [ER2.out]
       exact ⟨rfl,bW⟩
     ·have h97' : decide ((97 : Int) ≤ (m : Int)) = false := by simp; omega
      have DV : Hid (dgV x = 99) := Lib.hid (by unfold dgV; rw [if_neg (by omega),hm.out,if_neg (by omega)])
      have ER2 : Hid (R = (0,2)) := Lib.hid (by rw [ER.out,HD.out,if_pos (by rw [DV.out]; omega)])
      clear HD ER DV hm
      go_wp2_with fail
      refine (LO _).mono ?_
      rintro e w' ⟨rfl,rfl⟩
      go_wp2_with fail
      go_ret2
      rw [ER2.out]
      exact ⟨rfl,bW⟩
  ·have hltd : decide ((k : Int) < (s.size : Int)) = false := by simp; omega
   have hge : (s.size : Int) ≤ (k : Int) := by omega
   obtain ⟨ea,acc64,eR⟩ := HH.out
   rw [List.drop_eq_nil_of_le (by rw [hsl]; omega)] at eR
   have ER : Hid (R = (acc,0)) := Lib.hid eR
   have EA := Lib.hid ea
   clear HH ea eR
   go_wp2_with fail
   go_ret2
   rw [ER.out,EA.out]
   exact ⟨rfl,bW⟩
set_option maxRecDepth 100000 in
theorem parseUint_empty (s : ByteArray) (he : s.data.toList = []) (w : World) :
  Calls Tryz.prog 126 #[.string s,.int .i64 16,.int .i64 64] w fun e w' => e = .returned (.tuple #[.int .u64 0,errV 2]) ∧ Below w.heap.size w w' := by
 have he' : (s.toList == ([] : List UInt8)) = true := by
  rw [Lib.toList_data,he]; rfl
 go_enter Tryz.func126,Tryz.ntmps126
 go_wp2_with fail
 go_ret2
 exact ⟨rfl,Below.refl _ _⟩
end Go.Proofs.YtalaajniammggaaGreatDoor

/- The library by its contracts: the plain text of the kit's layings, those that are used. -/
namespace Go.Proofs.YtalaajniammggaaGreatDoor
open Go.Shelf
def Tryz.laysC245_ren : Go.Shelf.Ren := ⟨fun | 245 => 108 | 279 => 127 | 280 => 128 | 281 => 129 | 282 => 130 | 316 => 137 | 171 => 36 | 205 => 138 | 243 => 54 | 246 => 65 | 283 => 81 | 284 => 82 | 285 => 83 | 286 => 84 | 129 => 99 | 317 => 98 | 318 => 100 | 319 => 101 | 320 => 102 | 337 => 114 | 338 => 115 | n => n,fun | 9 => 9 | 3 => 3 | 75 => 47 | 167 => 153 | 4 => 4 | 168 => 154 | 210 => 166 | 37 => 43 | 0 => 0 | 127 => 65 | 145 => 185 | 143 => 183 | 2 => 2 | 171 => 113 | 53 => 99 | 5 => 5 | 173 => 116 | 212 => 132 | 51 => 120 | 20 => 20 | 213 => 133 | 46 => 102 | 232 => 160 | 233 => 161 | 80 => 53 | n => n,fun | 15 => 7 | 16 => 8 | 17 => 4 | 18 => 5 | 19 => 6 | n => n⟩
theorem Tryz.laysC245 : Go.Proofs.LaysC.n245 Tryz.prog Tryz.laysC245_ren := {
 mixed := by kernel_rfl
 f129 := Tryz.func99.trans (congrArg some (by kernel_rfl))
 f171 := Tryz.func36.trans (congrArg some (by kernel_rfl))
 f205 := Tryz.func138.trans (congrArg some (by kernel_rfl))
 f243 := Tryz.func54.trans (congrArg some (by kernel_rfl))
 f245 := Tryz.func108.trans (congrArg some (by kernel_rfl))
 f246 := Tryz.func65.trans (congrArg some (by kernel_rfl))
 f279 := Tryz.func127.trans (congrArg some (by kernel_rfl))
 f280 := Tryz.func128.trans (congrArg some (by kernel_rfl))
 f281 := Tryz.func129.trans (congrArg some (by kernel_rfl))
 f282 := Tryz.func130.trans (congrArg some (by kernel_rfl))
 f283 := Tryz.func81.trans (congrArg some (by kernel_rfl))
 f284 := Tryz.func82.trans (congrArg some (by kernel_rfl))
 f285 := Tryz.func83.trans (congrArg some (by kernel_rfl))
 f286 := Tryz.func84.trans (congrArg some (by kernel_rfl))
 f316 := Tryz.func137.trans (congrArg some (by kernel_rfl))
 f317 := Tryz.func98.trans (congrArg some (by kernel_rfl))
 f318 := Tryz.func100.trans (congrArg some (by kernel_rfl))
 f319 := Tryz.func101.trans (congrArg some (by kernel_rfl))
 f320 := Tryz.func102.trans (congrArg some (by kernel_rfl))
 f337 := Tryz.func114.trans (congrArg some (by kernel_rfl))
 f338 := Tryz.func115.trans (congrArg some (by kernel_rfl))
 t0 := Tryz.underlying0
 a0 := Tryz.isAgg0
 z0 := Tryz.sizeOf0
 v0 := Tryz.zeroValue0
 t2 := Tryz.underlying2
 a2 := Tryz.isAgg2
 z2 := Tryz.sizeOf2
 v2 := Tryz.zeroValue2
 t3 := Tryz.underlying3
 a3 := Tryz.isAgg3
 z3 := Tryz.sizeOf3
 v3 := Tryz.zeroValue3
 t4 := Tryz.underlying4
 a4 := Tryz.isAgg4
 z4 := Tryz.sizeOf4
 v4 := Tryz.zeroValue4
 t5 := Tryz.underlying5
 a5 := Tryz.isAgg5
 z5 := Tryz.sizeOf5
 v5 := Tryz.zeroValue5
 t9 := Tryz.underlying9
 a9 := Tryz.isAgg9
 z9 := Tryz.sizeOf9
 v9 := Tryz.zeroValue9
 t20 := Tryz.underlying20
 a20 := Tryz.isAgg20
 z20 := Tryz.sizeOf20
 v20 := Tryz.zeroValue20
 t37 := Tryz.underlying43
 a37 := Tryz.isAgg43
 z37 := Tryz.sizeOf43
 v37 := Tryz.zeroValue43
 t46 := Tryz.underlying102
 a46 := Tryz.isAgg102
 z46 := Tryz.sizeOf102
 v46 := Tryz.zeroValue102
 t51 := Tryz.underlying120
 a51 := Tryz.isAgg120
 z51 := Tryz.sizeOf120
 v51 := Tryz.zeroValue120
 t53 := Tryz.underlying99
 a53 := Tryz.isAgg99
 z53 := Tryz.sizeOf99
 v53 := Tryz.zeroValue99
 t75 := Tryz.underlying47
 a75 := Tryz.isAgg47
 z75 := Tryz.sizeOf47
 v75 := Tryz.zeroValue47
 t127 := Tryz.underlying65
 a127 := Tryz.isAgg65
 z127 := Tryz.sizeOf65
 v127 := Tryz.zeroValue65
 t143 := Tryz.underlying183
 a143 := Tryz.isAgg183
 z143 := Tryz.sizeOf183
 v143 := Tryz.zeroValue183
 t145 := Tryz.underlying185
 a145 := Tryz.isAgg185
 z145 := Tryz.sizeOf185
 v145 := Tryz.zeroValue185
 t167 := Tryz.underlying153
 a167 := Tryz.isAgg153
 z167 := Tryz.sizeOf153
 v167 := Tryz.zeroValue153
 t168 := Tryz.underlying154
 a168 := Tryz.isAgg154
 z168 := Tryz.sizeOf154
 v168 := Tryz.zeroValue154
 t171 := Tryz.underlying113
 a171 := Tryz.isAgg113
 z171 := Tryz.sizeOf113
 v171 := Tryz.zeroValue113
 t173 := Tryz.underlying116
 a173 := Tryz.isAgg116
 z173 := Tryz.sizeOf116
 v173 := Tryz.zeroValue116
 t210 := Tryz.underlying166
 a210 := Tryz.isAgg166
 z210 := Tryz.sizeOf166
 v210 := Tryz.zeroValue166
 t212 := Tryz.underlying132
 a212 := Tryz.isAgg132
 z212 := Tryz.sizeOf132
 v212 := Tryz.zeroValue132
 t213 := Tryz.underlying133
 a213 := Tryz.isAgg133
 z213 := Tryz.sizeOf133
 t232 := Tryz.underlying160
 a232 := Tryz.isAgg160
 z232 := Tryz.sizeOf160
 v232 := Tryz.zeroValue160
 t233 := Tryz.underlying161
 a233 := Tryz.isAgg161
 z233 := Tryz.sizeOf161
 v233 := Tryz.zeroValue161
 g15 := by kernel_rfl
 g16 := by kernel_rfl
 g17 := by kernel_rfl
 g18 := by kernel_rfl
 g19 := by kernel_rfl
 t80 := Tryz.underlying53
 a80 := Tryz.isAgg53
 z80 := Tryz.sizeOf53
 v80 := Tryz.zeroValue53
 i0 := by kernel_rfl
 i2 := by kernel_rfl
 i3 := by kernel_rfl
 i4 := by kernel_rfl
 i5 := by kernel_rfl
 i9 := by kernel_rfl
 i20 := by kernel_rfl
 i37 := by kernel_rfl
 i46 := by kernel_rfl
 i51 := by kernel_rfl
 i53 := by kernel_rfl
 i75 := by kernel_rfl
 i80 := by kernel_rfl
 i127 := by kernel_rfl
 i143 := by kernel_rfl
 i145 := by kernel_rfl
 i167 := by kernel_rfl
 i168 := by kernel_rfl
 i171 := by kernel_rfl
 i173 := by kernel_rfl
 i210 := by kernel_rfl
 i212 := by kernel_rfl
 i232 := by kernel_rfl
 i233 := by kernel_rfl
 m15 := by kernel_rfl
 m16 := by kernel_rfl
 m17 := by kernel_rfl
 m18 := by kernel_rfl
 m19 := by kernel_rfl
 c0 := by kernel_rfl
 c2 := by kernel_rfl
 c3 := by kernel_rfl
 c4 := by kernel_rfl
 c5 := by kernel_rfl
 c9 := by kernel_rfl
 c20 := by kernel_rfl
 c37 := by kernel_rfl
 c46 := by kernel_rfl
 c51 := by kernel_rfl
 c53 := by kernel_rfl
 c75 := by kernel_rfl
 c80 := by kernel_rfl
 c127 := by kernel_rfl
 c143 := by kernel_rfl
 c145 := by kernel_rfl
 c167 := by kernel_rfl
 c168 := by kernel_rfl
 c171 := by kernel_rfl
 c173 := by kernel_rfl
 c210 := by kernel_rfl
 c212 := by kernel_rfl
 c213 := by kernel_rfl
 c232 := by kernel_rfl
 c233 := by kernel_rfl }
open Go.RowKit in
theorem Tryz.strconv_toError_syntax (fn s : ByteArray) (base bits : Int) (ev : Value) (w : World) (hlim : s.size ≤ 281474976710656) (hv : w.cell? ⟨7,0,none⟩ = some ev) (hev : ev = .nilIface ∨ ∃ te pe,ev = .iface te pe) :
  Calls Tryz.prog 108 #[.string fn,.string s,.int .i64 base,.int .i64 bits,.iface 153 (.int .i64 2)] w fun e w' => ∃ N,e = .returned (.iface 154 (.pointer (some ⟨N,0,none⟩))) ∧ w.heap.size ≤ N ∧ w'.heap[N]? = some (.cells #[.string fn,.string s,ev] 166 (0,0)) ∧ Below w.heap.size w w' := Any.strconv_toError_syntax Tryz.laysC245 fn s base bits ev w hlim hv hev
open Go.RowKit in
theorem Tryz.strconv_toError_range (fn s : ByteArray) (base bits : Int) (ev : Value) (w : World) (hlim : s.size ≤ 281474976710656) (hv : w.cell? ⟨8,0,none⟩ = some ev) (hev : ev = .nilIface ∨ ∃ te pe,ev = .iface te pe) :
  Calls Tryz.prog 108 #[.string fn,.string s,.int .i64 base,.int .i64 bits,.iface 153 (.int .i64 1)] w fun e w' => ∃ N,e = .returned (.iface 154 (.pointer (some ⟨N,0,none⟩))) ∧ w.heap.size ≤ N ∧ w'.heap[N]? = some (.cells #[.string fn,.string s,ev] 166 (0,0)) ∧ Below w.heap.size w w' := Any.strconv_toError_range Tryz.laysC245 fn s base bits ev w hlim hv hev
end Go.Proofs.YtalaajniammggaaGreatDoor

/- strconv.ParseUint, base 16. -/
namespace Go.Proofs.YtalaajniammggaaGreatDoor
open Go.RowKit
structure Errz (w : World) : Prop where
 syn : ∃ t p,w.cell? ⟨7,0,none⟩ = some (.iface t p)
 ran : ∃ t p,w.cell? ⟨8,0,none⟩ = some (.iface t p)
theorem Errz.kept {w w' : World} (h : Errz w) (hb : Below w.heap.size w w') : Errz w' := by
 obtain ⟨⟨t,p,h1⟩,t',p',h2⟩ := h
 exact ⟨⟨t,p,(hb.cell (World.block_lt_of_cell? w _ h1)).trans h1⟩,t',p',(hb.cell (World.block_lt_of_cell? w _ h2)).trans h2⟩
theorem toErr (fn s : ByteArray) (base bits : Int) (k : Nat) (hk : k = 1 ∨ k = 2) (hs : s.size ≤ 140737488355328) (w : World) (E : Errz w) :
  Calls Tryz.prog 108 #[.string fn,.string s,.int .i64 base,.int .i64 bits,.iface 153 (.int .i64 k)] w fun e w' => ∃ N,e = .returned (.iface 154 (.pointer (some ⟨N,0,none⟩))) ∧ Below w.heap.size w w' := by
 rcases hk with rfl | rfl
 ·obtain ⟨t,p,h⟩ := E.ran
  refine (Tryz.strconv_toError_range fn s base bits _ w (by omega) h (.inr ⟨t,p,rfl⟩)).mono ?_
  rintro e w' ⟨N,rfl,_,_,hb⟩
  exact ⟨N,rfl,hb⟩
 ·obtain ⟨t,p,h⟩ := E.syn
  refine (Tryz.strconv_toError_syntax fn s base bits _ w (by omega) h (.inr ⟨t,p,rfl⟩)).mono ?_
  rintro e w' ⟨N,rfl,_,_,hb⟩
  exact ⟨N,rfl,hb⟩
def puR (l : List UInt8) : Nat × Nat := if l = [] then (0,2) else puL l 0
theorem puL_code : ∀ (l : List UInt8) (n : Nat),(puL l n).2 = 0 ∨ (puL l n).2 = 1 ∨ (puL l n).2 = 2
 | [],n => .inl rfl
 | c :: l,n => by
  unfold puL
  split
  ·exact .inr (.inr rfl)
  ·split
   ·exact .inr (.inl rfl)
   ·exact puL_code l _
theorem puR_code (l : List UInt8) : (puR l).2 = 0 ∨ (puR l).2 = 1 ∨ (puR l).2 = 2 := by
 unfold puR
 split
 ·exact .inr (.inr rfl)
 ·exact puL_code l 0
def ErrIs (k : Nat) (v : Value) : Prop := if k = 0 then v = .nilIface else ∃ N,v = .iface 154 (.pointer (some ⟨N,0,none⟩))
theorem pu_in (s : ByteArray) (hs : s.size ≤ 140737488355328) (w : World) :
  Calls Tryz.prog 126 #[.string s,.int .i64 16,.int .i64 64] w fun e w' => e = .returned (.tuple #[.int .u64 (puR s.data.toList).1,errV (puR s.data.toList).2]) ∧ Below w.heap.size w w' := by
 unfold puR
 by_cases h : s.data.toList = []
 ·rw [if_pos h]; exact parseUint_empty s h w
 ·rw [if_neg h]; exact parseUint_in s hs h w
set_option maxRecDepth 100000 in
theorem parseUint_any (s : ByteArray) (hs : s.size ≤ 140737488355328) (w : World) (E : Errz w) :
  Calls Tryz.prog 123 #[.string s,.int .i64 16,.int .i64 64] w fun e w' => ∃ err,e = .returned (.tuple #[.int .u64 (puR s.data.toList).1,err]) ∧ ErrIs (puR s.data.toList).2 err ∧ Below w.heap.size w w' := by
 have hP := pu_in s hs w
 have hc := puR_code s.data.toList
 generalize puR s.data.toList = R at *
 obtain ⟨v,k⟩ := R
 simp only at *
 by_cases h0 : k = 0
 ·subst h0
  have e0 : errV 0 = .nilIface := rfl
  rw [e0] at hP
  go_enter Tryz.func123,Tryz.ntmps123
  go_wp2_with fail
  refine hP.mono ?_
  rintro e w1 ⟨rfl,b1⟩
  go_wp2_with fail
  go_ret2
  exact ⟨_,rfl,rfl,b1⟩
 ·have ek : errV k = .iface 153 (.int .i64 k) := by unfold errV; rw [if_neg h0]
  rw [ek] at hP
  have hT := fun W (EW : Errz W) => toErr ⟨#[80,97,114,115,101,85,105,110,116]⟩ s 16 64 k (by omega) hs W EW
  go_enter Tryz.func123,Tryz.ntmps123
  go_wp2_with fail
  refine hP.mono ?_
  rintro e w1 ⟨rfl,b1⟩
  go_wp2_with fail
  refine (hT w1 (E.kept b1)).mono ?_
  rintro e w2 ⟨N,rfl,b2⟩
  go_wp2_with fail
  go_ret2
  refine ⟨_,rfl,?_,b1.trans (b2.mono b1.size)⟩
  unfold ErrIs
  rw [if_neg h0]
  exact ⟨N,rfl⟩
theorem dgV_hx : ∀ k : Fin 16,dgV (hx k.val).toNat = k.val := by decide +kernel
theorem puL_app : ∀ (l m : List UInt8) (n v : Nat),puL l n = (v,0) → puL (l ++ m) n = puL m v
 | [],m,n,v,h => by simp only [puL,Prod.mk.injEq,and_true] at h; rw [h]; rfl
 | c :: l,m,n,v,h => by
  unfold puL at h
  have e : puL (c :: (l ++ m)) n = (if 16 ≤ dgV c.toNat then (0,2) else if 1152921504606846976 ≤ n then (18446744073709551615,1) else puL (l ++ m) (n * 16 + dgV c.toNat)) := rfl
  rw [List.cons_append,e]
  split at h
  ·simp at h
  ·next h1 =>
   rw [if_neg h1]
   split at h
   ·simp at h
   ·next h2 =>
    rw [if_neg h2]
    exact puL_app l m _ v h
theorem puL_hex : ∀ (u : Nat),u < 18446744073709551616 → puL (hexL u) 0 = (u,0) := by
 intro u
 induction u using Nat.strongRecOn with
 | _ u ih =>
  intro hu
  by_cases h : u < 16
  ·rw [hexL_small h]
   have := dgV_hx ⟨u,h⟩
   simp only at this
   show (if 16 ≤ dgV (hx u).toNat then (0,2) else if 1152921504606846976 ≤ 0 then (18446744073709551615,1) else puL [] (0 * 16 + dgV (hx u).toNat)) = _
   rw [this,if_neg (by omega),if_neg (by omega)]
   simp [puL]
  ·rw [hexL_big h,puL_app _ _ 0 (u / 16) (ih (u / 16) (by omega) (by omega))]
   have := dgV_hx ⟨u % 16,by omega⟩
   simp only at this
   show (if 16 ≤ dgV (hx (u % 16)).toNat then (0,2) else if 1152921504606846976 ≤ u / 16 then (18446744073709551615,1) else puL [] (u / 16 * 16 + dgV (hx (u % 16)).toNat)) = _
   rw [this,if_neg (by omega),if_neg (by omega)]
   simp only [puL,Prod.mk.injEq,and_true]
   omega
theorem puR_hex (u : Nat) (h : u < 18446744073709551616) : puR (hexL u) = (u,0) := by
 unfold puR
 rw [if_neg (fun e => by have := hexL_pos u; rw [e] at this; simp at this)]
 exact puL_hex u h
end Go.Proofs.YtalaajniammggaaGreatDoor
