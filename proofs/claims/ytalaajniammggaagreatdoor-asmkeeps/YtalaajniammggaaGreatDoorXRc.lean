/- The document's upTo, field and register. -/
import Derived.Test.YtalaajniammggaaGreatDoorXRa
import Derived.Test.YtalaajniammggaaGreatDoorXAf
namespace Go.Proofs.YtalaajniammggaaGreatDoor
open Go.RowKit
theorem drop_at {s : ByteArray} {i : Nat} (hi : i < s.size) {c : UInt8} (hc : s[i] = c) : s.data.toList.drop i = c :: s.data.toList.drop (i + 1) := by
 have hl : i < s.data.toList.length := by rw [szl]; exact hi
 rw [List.drop_eq_getElem_cons hl]
 have : s.data.toList[i] = c := by rw [← hc]; rfl
 rw [this]
theorem upB_at_no {l : List UInt8} {c d : UInt8} (h : c = d) : upB d (c :: l) = [] := by subst h; simp [upB]
theorem upB_at_yes {l : List UInt8} {c d : UInt8} (h : c ≠ d) : upB d (c :: l) = c :: upB d l := by
 unfold upB
 rw [List.takeWhile_cons_of_pos (by simpa using h)]
set_option maxRecDepth 100000 in
theorem upTo_any (s : ByteArray) (hs : s.size ≤ 140737488355328) (p : Nat) (hp : p ≤ s.size) (q : Nat) (hq : Hid (p + (upB 32 (s.data.toList.drop p)).length = q)) (w : World) :
    Calls Tryz.prog 43 #[.string s,.int .i64 p] w fun e w' => e = .returned (.int .i64 q) ∧ w' = w := by
  go_enter Tryz.func43,Tryz.ntmps43
  go_wp2_with fail
  go_loopw [1] (fun s1 wr => ∃ i : Nat,s1 = .int .i64 i ∧ i ≤ s.size ∧ Hid (i + (upB 32 (s.data.toList.drop i)).length = q) ∧ wr = w) (fun s1 _ => s.size - (intOf s1).toNat)
  case atStart => exact ⟨p,rfl,hp,hq,rfl⟩
  case round =>
    clear hp hq
    obtain ⟨i,rfl,hi,HI,rfl⟩ := hrel
    by_cases hlt : i < s.size
    · have hlt' : (i : Int) < (s.size : Int) := by omega
      obtain ⟨c,hc⟩ : ∃ c,s[i] = c := ⟨_,rfl⟩
      have hdr := drop_at hlt hc
      by_cases h32 : c = 32
      · have d : ((c.toNat : Int) == 32) = true := by subst h32; rfl
        have HE : Hid (q = i) := Lib.hid (by have := HI.out; rw [hdr,upB_at_no h32] at this; simpa using this.symm)
        clear HI hdr h32
        go_wp2_with fail
        go_ret
        exact ⟨by rw [HE.out]; rfl,rfl⟩
      · have d : ((c.toNat : Int) == 32) = false := by
          rw [beq_eq_false_iff_ne]
          intro h
          exact h32 (UInt8.toNat_inj.1 (by have : c.toNat = 32 := by omega
                                           rw [this]; rfl))
        have HI' : Hid (i + 1 + (upB 32 (s.data.toList.drop (i + 1))).length = q) := Lib.hid (by
          have := HI.out
          rw [hdr,upB_at_yes h32,List.length_cons] at this
          omega)
        clear HI hdr h32
        go_wp2_with fail
        first
          | exact ⟨⟨i + 1,by go_num,by omega,HI',by trivial⟩,by simp [intOf]; omega⟩
          | (go_roundw
             case rel => exact ⟨i + 1,by go_num,by omega,HI',by trivial⟩
             case measure => simp [intOf]; omega)
    · have hltd : decide ((i : Int) < (s.size : Int)) = false := by simp; omega
      have HE : Hid (q = i) := Lib.hid (by
        have := HI.out
        rw [List.drop_of_length_le (by rw [szl]; omega)] at this
        simpa [upB] using this.symm)
      clear HI
      go_wp2_with fail
      go_ret
      exact ⟨by rw [HE.out]; rfl,rfl⟩
set_option maxRecDepth 100000 in
theorem field_yes (s : ByteArray) (hs : s.size ≤ 140737488355328) (p : Nat) (hp : p < s.size) (w : World) : ∃ (P : ByteArray) (q : Nat),P.data.toList = upB 32 (s.data.toList.drop (p + 1)) ∧ p + 1 + P.size = q ∧ q ≤ s.size ∧
  Calls Tryz.prog 44 #[.string s,.int .i64 p] w fun e w' => e = .returned (.tuple #[.string P,.int .i64 ((p : Int) + 1),.int .i64 q,.bool true]) ∧ w' = w := by
 obtain ⟨q,hq⟩ : ∃ q,Hid (p + 1 + (upB 32 (s.data.toList.drop (p + 1))).length = q) := ⟨_,rfl⟩
 have hul := upB_len 32 (s.data.toList.drop (p + 1))
 rw [List.length_drop,szl] at hul
 have hq2 : q ≤ s.size := by have := hq.out; omega
 have hq1 : p + 1 ≤ q := by have := hq.out; omega
 have hU := upTo_any s hs (p + 1) (by omega) q hq w
 have hPl : (s.extract (p + 1) q).data.toList = upB 32 (s.data.toList.drop (p + 1)) := by
  rw [ext_list,← hq.out,Nat.add_sub_cancel_left]
  exact upB_take 32 _
 have hPz : p + 1 + (s.extract (p + 1) q).size = q := by rw [ByteArray.size_extract]; omega
 refine ⟨s.extract (p + 1) q,q,hPl,hPz,hq2,?_⟩
 have d1 : ((p : Int) == (s.size : Int)) = false := by rw [beq_eq_false_iff_ne]; omega
 have e1 : ((p + 1 : Nat) : Int) = (p : Int) + 1 := by omega
 rw [e1] at hU
 have c1 : (0 : Int) ≤ (p : Int) + 1 := by omega
 have c2 : (p : Int) + 1 ≤ (q : Int) := by omega
 have c3 : (q : Int) ≤ (s.size : Int) := by omega
 clear hPl hPz hul hq e1
 go_enter Tryz.func44,Tryz.ntmps44
 go_wp2_with fail
 refine hU.mono ?_
 rintro e w1 ⟨rfl,rfl⟩
 go_wp2_with fail
 (try simp only [Exit.inBlock,Exit.then]); refine bodyPost_ret (results_tmp4 rfl _ _ _) rfl ?_
 exact ⟨rfl,rfl⟩
set_option maxRecDepth 100000 in
theorem field_no (s : ByteArray) (w : World) :
  Calls Tryz.prog 44 #[.string s,.int .i64 s.size] w fun e w' => e = .returned (.tuple #[.string ⟨#[]⟩,.int .i64 0,.int .i64 0,.bool false]) ∧ w' = w := by
 have d1 : ((s.size : Int) == (s.size : Int)) = true := by simp
 go_enter Tryz.func44,Tryz.ntmps44
 go_wp2_with fail
 (try simp only [Exit.inBlock,Exit.then]); refine bodyPost_ret (results_tmp4 rfl _ _ _) rfl ?_
 exact ⟨rfl,rfl⟩
end Go.Proofs.YtalaajniammggaaGreatDoor

/- The document's register and Number. -/
namespace Go.Proofs.YtalaajniammggaaGreatDoor
open Go.RowKit
theorem regL_eight {r : Int} (h0 : 0 ≤ r) (h8 : r < 8) : regL r = [114,UInt8.ofNat (48 + r.toNat)] := by
 have := regL_nat r.toNat (by omega)
 rwa [show ((r.toNat : Nat) : Int) = r by omega] at this
theorem reg_len {t : List UInt8} (h : t.length ≠ 2) : regOf t = none := by
 cases e : regOf t with
 | none => rfl
 | some r =>
  obtain ⟨h0,h8,rfl⟩ := regOf_some e
  rw [regL_eight h0 h8] at h
  simp at h
theorem reg_yes {c : UInt8} (h1 : 48 ≤ c.toNat) (h2 : c.toNat ≤ 55) : regOf [114,c] = some ((c.toNat : Int) - 48) := by
 have := regOf_yes (r := (c.toNat : Int) - 48) (by omega) (by omega)
 rw [regL_eight (by omega) (by omega)] at this
 have e : UInt8.ofNat (48 + ((c.toNat : Int) - 48).toNat) = c := by
  rw [show 48 + ((c.toNat : Int) - 48).toNat = c.toNat by omega]
  exact UInt8.ofNat_toNat
 rwa [e] at this
theorem reg_not {a c : UInt8} (h : ¬ (a = 114 ∧ 48 ≤ c.toNat ∧ c.toNat ≤ 55)) : regOf [a,c] = none := by
 cases e : regOf [a,c] with
 | none => rfl
 | some r =>
  obtain ⟨h0,h8,ht⟩ := regOf_some e
  rw [regL_eight h0 h8] at ht
  simp only [List.cons.injEq,and_true] at ht
  exfalso
  apply h
  refine ⟨ht.1,?_⟩
  rw [ht.2,UInt8.toNat_ofNat']
  omega
theorem two_list {s : ByteArray} (h : s.size = 2) {a c : UInt8} (z0 : 0 < s.size) (z1 : 1 < s.size) (ha : s[0] = a) (hc : s[1] = c) : s.data.toList = [a,c] := by
 have h0 := drop_at (s := s) (i := 0) (by omega) ha
 have h1 := drop_at (s := s) (i := 1) (by omega) hc
 rw [List.drop_zero] at h0
 rw [h0,h1]
 have : s.data.toList.drop (1 + 1) = [] := List.drop_of_length_le (by rw [szl]; omega)
 rw [this]
def RegPost (t : List UInt8) (e : Ending) : Prop := ∃ (r : Int) (ok : Bool),e = .returned (.tuple #[.int .i64 r,.bool ok]) ∧ regOf t = (if ok = true then some r else none)
set_option maxRecDepth 100000 in
set_option maxHeartbeats 1000000 in
theorem register_any' (s : ByteArray) (w : World) :
    Calls Tryz.prog 45 #[.string s] w fun e w' => RegPost s.data.toList e ∧ w' = w := by
  by_cases h2 : s.size = 2
  · have z0 : 0 < s.size := by omega
    have z1 : 1 < s.size := by omega
    obtain ⟨a,ha⟩ : ∃ a,s[0]'z0 = a := ⟨_,rfl⟩
    obtain ⟨c,hc⟩ : ∃ c,s[1]'z1 = c := ⟨_,rfl⟩
    have hl := two_list h2 z0 z1 ha hc
    have d2n : ((s.size : Int) != 2) = false := by
      have d2 : ((s.size : Int) == 2) = true := by rw [beq_iff_eq]; omega
      rw [bne,d2]; rfl
    have z0' : (0 : Int) < (s.size : Int) := by omega
    have z1' : (1 : Int) < (s.size : Int) := by omega
    have bc := c.toNat_lt
    have NO : ¬ (a = 114 ∧ 48 ≤ c.toNat ∧ c.toNat ≤ 55) → Hid (RegPost s.data.toList (.returned (.tuple #[.int .i64 0,.bool false]))) := fun h => Lib.hid ⟨0,false,rfl,by rw [hl,reg_not h]; rfl⟩
    have YES : a = 114 → 48 ≤ c.toNat → c.toNat ≤ 55 → Hid (RegPost s.data.toList (.returned (.tuple #[.int .i64 ((c.toNat : Int) - 48),.bool true]))) := fun h1 h2 h3 => Lib.hid ⟨_,true,rfl,by rw [hl,h1,reg_yes h2 h3]; rfl⟩
    clear hl h2
    by_cases h114 : a = 114
    · have d3 : ((a.toNat : Int) == 114) = true := by subst h114; rfl
      have d3n : ((a.toNat : Int) != 114) = false := by subst h114; rfl
      by_cases h48 : 48 ≤ c.toNat
      · have d4 : decide ((c.toNat : Int) < 48) = false := by simp; omega
        by_cases h55 : c.toNat ≤ 55
        · have d5 : decide ((55 : Int) < (c.toNat : Int)) = false := by simp; omega
          have H := YES h114 h48 h55
          have ew : IntKind.u8.wrap ((c.toNat : Int) - 48) = (c.toNat : Int) - 48 := by rw [IntKind.wrap_u8]; omega
          clear NO YES h114 h48 h55
          go_enter Tryz.func45,Tryz.ntmps45
          go_wp2_with fail
          go_ret2
          exact ⟨H.out,rfl⟩
        · have d5 : (55 : Int) < (c.toNat : Int) := by omega
          have H := NO (fun h => h55 h.2.2)
          clear NO YES h114 h48 h55
          go_enter Tryz.func45,Tryz.ntmps45
          go_wp2_with fail
          go_ret2
          exact ⟨H.out,rfl⟩
      · have d4 : (c.toNat : Int) < 48 := by omega
        have H := NO (fun h => h48 h.2.1)
        clear NO YES h114 h48
        go_enter Tryz.func45,Tryz.ntmps45
        go_wp2_with fail
        go_ret2
        exact ⟨H.out,rfl⟩
    · have d3 : ((a.toNat : Int) == 114) = false := by
        rw [beq_eq_false_iff_ne]
        intro h
        exact h114 (UInt8.toNat_inj.1 (by have : a.toNat = 114 := by omega
                                          rw [this]; rfl))
      have d3n : ((a.toNat : Int) != 114) = true := by rw [bne,d3]; rfl
      have H := NO (fun h => h114 h.1)
      clear NO YES h114
      go_enter Tryz.func45,Tryz.ntmps45
      go_wp2_with fail
      go_ret2
      exact ⟨H.out,rfl⟩
  · have d2n : ((s.size : Int) != 2) = true := by
      have d2 : ((s.size : Int) == 2) = false := by rw [beq_eq_false_iff_ne]; omega
      rw [bne,d2]; rfl
    have H : Hid (RegPost s.data.toList (.returned (.tuple #[.int .i64 0,.bool false]))) := Lib.hid ⟨0,false,rfl,by rw [reg_len (by rw [szl]; exact h2)]; rfl⟩
    clear h2
    go_enter Tryz.func45,Tryz.ntmps45
    go_wp2_with fail
    go_ret2
    exact ⟨H.out,rfl⟩
def nGo : List UInt8 → Int → Option Int
 | [],n => some n
 | c :: r,n => if c.toNat < 48 ∨ 57 < c.toNat then none else if n < (-9223372036854775808 + ((c.toNat : Int) - 48)).tdiv 10 then none else nGo r (10 * n - ((c.toNat : Int) - 48))
theorem quo_up (d : Int) (h0 : 0 ≤ d) (h9 : d ≤ 9) (n : Int) : n < (-9223372036854775808 + d).tdiv 10 ↔ 10 * n - d < -9223372036854775808 := by
 have e : (-9223372036854775808 + d).tdiv 10 = -((9223372036854775808 - d) / 10) := by
  have : -9223372036854775808 + d = -(9223372036854775808 - d) := by omega
  rw [this,Int.neg_tdiv,Int.tdiv_eq_ediv_of_nonneg (by omega)]
 rw [e]
 omega
theorem nGo_append : ∀ (l r : List UInt8) (n m : Int),nGo l n = some m → nGo (l ++ r) n = nGo r m
 | [],r,n,m,h => by
  simp only [nGo,Option.some.injEq] at h
  rw [h]
  rfl
 | c :: l,r,n,m,h => by
  simp only [nGo,List.cons_append] at h ⊢
  split at h
  ·cases h
  ·next h1 =>
   split at h
   ·cases h
   ·next h2 =>
    rw [if_neg h1,if_neg h2]
    exact nGo_append l r _ m h
theorem nGo_dd : ∀ (u : Nat),u ≤ 9223372036854775808 → nGo (Lib.decDigits u) 0 = some (-(u : Int)) := by
 intro u
 induction u using Nat.strongRecOn with
 | _ u ih =>
  intro hu
  by_cases h : u < 10
  ·rw [Lib.decDigits_one h]
   have e : (UInt8.ofNat (48 + u)).toNat = 48 + u := by rw [UInt8.toNat_ofNat']; omega
   simp only [nGo,e]
   rw [if_neg (by omega),if_neg (by rw [quo_up _ (by omega) (by omega)]; omega)]
   congr 1
   omega
  ·rw [Lib.decDigits,dif_neg h,nGo_append _ _ _ _ (ih (u / 10) (by omega) (by omega))]
   have e : (UInt8.ofNat (48 + u % 10)).toNat = 48 + u % 10 := by rw [UInt8.toNat_ofNat']; omega
   simp only [nGo,e]
   rw [if_neg (by omega),if_neg (by rw [quo_up _ (by omega) (by omega)]; omega)]
   congr 1
   omega
def numR (t : List UInt8) : Option Int :=
 if t.head? = some 45 then nGo t.tail 0 else match nGo t 0 with | none => none | some n => if n = -9223372036854775808 then none else some (-n)
theorem numR_itoa (v : Int) (h : InR v) : numR (Lib.itoa v) = some v := by
 unfold InR at h
 unfold numR Lib.itoa
 by_cases h0 : v < 0
 ·rw [if_pos h0,if_pos (by simp),List.tail_cons,nGo_dd _ (by omega)]
  congr 1
  omega
 ·rw [if_neg h0]
  obtain ⟨hd,hn⟩ := dd_dig v.toNat
  have hne : (Lib.decDigits v.toNat).head? ≠ some 45 := by
   cases e : Lib.decDigits v.toNat with
   | nil => simp
   | cons c r =>
    have := hd c (by rw [e]; simp)
    simp only [List.head?_cons,ne_eq,Option.some.injEq]
    rintro rfl
    revert this
    decide
  rw [if_neg hne,nGo_dd _ (by omega)]
  simp only
  rw [if_neg (by omega)]
  congr 1
  omega
end Go.Proofs.YtalaajniammggaaGreatDoor

/- The document's Number. -/
namespace Go.Proofs.YtalaajniammggaaGreatDoor
open Go.RowKit
theorem quo_b (d : Int) (h0 : 0 ≤ d) (h9 : d ≤ 9) : -9223372036854775808 ≤ (-9223372036854775808 + d).tdiv 10 ∧ (-9223372036854775808 + d).tdiv 10 ≤ 0 := by
 have e : (-9223372036854775808 + d).tdiv 10 = -((9223372036854775808 - d) / 10) := by
  have : -9223372036854775808 + d = -(9223372036854775808 - d) := by omega
  rw [this,Int.neg_tdiv,Int.tdiv_eq_ediv_of_nonneg (by omega)]
 rw [e]
 omega
def NumPost (t : List UInt8) (e : Ending) : Prop := ∃ (v : Int) (ok : Bool),e = .returned (.tuple #[.int .i64 v,.bool ok]) ∧ (ok = true → InR v ∧ Lib.itoa v = t) ∧ ∀ u,InR u → Lib.itoa u = t → ok = true ∧ u = v
theorem numNo {t : List UInt8} (v : Int) (h : numR t = none) : NumPost t (.returned (.tuple #[.int .i64 v,.bool false])) :=
 ⟨v,false,rfl,fun h => absurd h (by simp),fun u hu he => by
  have := numR_itoa u hu
  rw [he,h] at this
  cases this⟩
theorem numYes {t : List UInt8} {v : Int} (hv : InR v) (h : numR t = some v) : NumPost t (.returned (.tuple #[.int .i64 v,.bool (decide (Lib.itoa v = t))])) :=
 ⟨v,_,rfl,fun h => ⟨hv,by simpa using h⟩,fun u hu he => by
  have := numR_itoa u hu
  rw [he,h] at this
  injection this with this
  subst this
  exact ⟨by simpa using he,rfl⟩⟩
theorem nGo_bad {c : UInt8} {r : List UInt8} {n : Int} (h : c.toNat < 48 ∨ 57 < c.toNat) : nGo (c :: r) n = none := by rw [nGo,if_pos h]
theorem numR_neg_none {t : List UInt8} (h : t.head? = some 45) (hn : nGo (t.drop 1) 0 = none) : numR t = none := by
 unfold numR
 rw [if_pos h,← List.drop_one,hn]
theorem numR_neg_some {t : List UInt8} (h : t.head? = some 45) {n : Int} (hn : nGo (t.drop 1) 0 = some n) : numR t = some n := by
 unfold numR
 rw [if_pos h,← List.drop_one,hn]
theorem numR_pos_none {t : List UInt8} (h : t.head? ≠ some 45) (hn : nGo (t.drop 0) 0 = none) : numR t = none := by
 unfold numR
 rw [if_neg h]
 rw [List.drop_zero] at hn
 rw [hn]
theorem numR_pos_some {t : List UInt8} (h : t.head? ≠ some 45) {n : Int} (hn : nGo (t.drop 0) 0 = some n) (hm : n ≠ -9223372036854775808) : numR t = some (-n) := by
 unfold numR
 rw [if_neg h]
 rw [List.drop_zero] at hn
 rw [hn]
 simp only
 rw [if_neg hm]
theorem numR_pos_min {t : List UInt8} (h : t.head? ≠ some 45) (hn : nGo (t.drop 0) 0 = some (-9223372036854775808)) : numR t = none := by
 unfold numR
 rw [if_neg h]
 rw [List.drop_zero] at hn
 rw [hn]
 rfl
theorem head_at {s : ByteArray} (h : 0 < s.size) {c : UInt8} (hc : s[0] = c) : s.data.toList.head? = some c := by
 have := drop_at h hc
 rw [List.drop_zero] at this
 rw [this]
 rfl
set_option maxRecDepth 100000 in
set_option maxHeartbeats 4000000 in
theorem number_neg (V : Env) (s : ByteArray) (hs : s.size ≤ 140737488355328) (hB : s.data.toList.head? = some 45) (w : World) (A : V.A w) :
    Calls Tryz.prog 61 #[.string s] w fun e w' => NumPost s.data.toList e ∧ Below w.heap.size w w' := by
  have hsz : 0 < s.size := by
    rw [← szl]
    cases e : s.data.toList with
    | nil => rw [e] at hB; simp at hB
    | cons a b => simp
  have hsz' : (0 : Int) < (s.size : Int) := by omega
  obtain ⟨c0,hc0⟩ : ∃ c,s[0]'hsz = c := ⟨_,rfl⟩
  have e45 : c0 = 45 := by
    have := head_at hsz hc0
    rw [hB] at this
    injection this with this
    exact this.symm
  have d0 : ((c0.toNat : Int) == 45) = true := by subst e45; rfl
  have HB := Lib.hid hB
  have HF : Hid (∀ v,InR v → _) := Lib.hid (fun v hv => finds V v hv.1 hv.2 w A)
  clear hB e45 A
  go_enter Tryz.func61,Tryz.ntmps61
  go_wp2_with fail
  go_loopw [6,7,8] (fun s6 s7 _ wr => ∃ (i : Nat) (n : Int),s7 = .int .i64 i ∧ i ≤ s.size ∧ s6 = .int .i64 n ∧ -9223372036854775808 ≤ n ∧ n ≤ 0 ∧ Hid (nGo (s.data.toList.drop 1) 0 = nGo (s.data.toList.drop i) n) ∧ wr = w) (fun _ s7 _ _ => s.size - (intOf s7).toNat)
  case atStart => exact ⟨1,0,rfl,by omega,rfl,by omega,by omega,Lib.hid rfl,rfl⟩
  case round =>
    obtain ⟨i,n,rfl,hi,rfl,n1,n2,HI,rfl⟩ := hrel
    by_cases hlt : i < s.size
    · have hlt' : (i : Int) < (s.size : Int) := by omega
      obtain ⟨c,hc⟩ : ∃ c,s[i] = c := ⟨_,rfl⟩
      have hdr := drop_at hlt hc
      obtain ⟨x,hx⟩ : ∃ x : Nat,c.toNat = x := ⟨_,rfl⟩
      have hx256 : x < 256 := by rw [← hx]; exact c.toNat_lt
      by_cases h48 : x < 48
      · have d1 : (x : Int) < 48 := by omega
        have HQ := Lib.hid (numNo (t := s.data.toList) 0 (numR_neg_none HB.out (by rw [HI.out,hdr]; exact nGo_bad (.inl (by rw [hx]; exact h48)))))
        clear HI hdr HF
        go_wp2_with fail
        go_ret2
        exact ⟨HQ.out,Below.refl _ _⟩
      · have d1 : decide ((x : Int) < 48) = false := by simp; omega
        have d1' : (48 : Int) ≤ (x : Int) := by omega
        by_cases h57 : 57 < x
        · have d2 : (57 : Int) < (x : Int) := by omega
          have HQ := Lib.hid (numNo (t := s.data.toList) 0 (numR_neg_none HB.out (by rw [HI.out,hdr]; exact nGo_bad (.inr (by rw [hx]; exact h57)))))
          clear HI hdr HF
          go_wp2_with fail
          go_ret2
          exact ⟨HQ.out,Below.refl _ _⟩
        · have d2 : decide ((57 : Int) < (x : Int)) = false := by simp; omega
          have d2' : (x : Int) ≤ 57 := by omega
          obtain ⟨D,hD⟩ : ∃ D : Nat,Hid (x = 48 + D) := ⟨x - 48,Lib.hid (by omega)⟩
          have eD : (x : Int) - 48 = (D : Int) := by have := hD.out; omega
          have eW : IntKind.u8.wrap ((x : Int) - 48) = (D : Int) := by rw [IntKind.wrap_u8]; have := hD.out; omega
          have hD9 : (D : Int) ≤ 9 := by have := hD.out; omega
          obtain ⟨qz,hqz⟩ : ∃ q,Hid ((-9223372036854775808 + (D : Int)).tdiv 10 = q) := ⟨_,rfl⟩
          have eq1 : (-9223372036854775808 + (D : Int)).tdiv 10 = qz := hqz.out
          have hup := quo_up (D : Int) (by omega) hD9 n
          rw [hqz.out] at hup
          have q1 : -9223372036854775808 ≤ qz := by rw [← hqz.out]; exact (quo_b (D : Int) (by omega) hD9).1
          have q2 : qz ≤ 0 := by rw [← hqz.out]; exact (quo_b (D : Int) (by omega) hD9).2
          have hst : nGo (s.data.toList.drop i) n = if n < qz then none else nGo (s.data.toList.drop (i + 1)) (10 * n - D) := by
            rw [hdr,nGo,hx,if_neg (by omega),eD,hqz.out]
          by_cases hov : n < qz
          · have HQ := Lib.hid (numNo (t := s.data.toList) 0 (numR_neg_none HB.out (by rw [HI.out,hst,if_pos hov])))
            clear HI hdr HF hst hup
            go_wp2_with fail
            go_ret2
            exact ⟨HQ.out,Below.refl _ _⟩
          · have d3 : decide (n < qz) = false := by simpa using hov
            obtain ⟨n',hn'⟩ : ∃ n',Hid (10 * n - (D : Int) = n') := ⟨_,rfl⟩
            have en : 10 * n - (D : Int) = n' := hn'.out
            have m1 : -9223372036854775808 ≤ n' := by have := hn'.out; omega
            have m2 : n' ≤ 0 := by have := hn'.out; omega
            have m3 : -9223372036854775808 ≤ 10 * n := by have := hn'.out; omega
            have m4 : 10 * n ≤ 0 := by omega
            have HI' : Hid (nGo (s.data.toList.drop 1) 0 = nGo (s.data.toList.drop (i + 1)) n') := Lib.hid (by rw [HI.out,hst,if_neg hov,hn'.out])
            clear HI hdr HF hst hup hov
            go_wp2_with fail
            first
              | exact ⟨⟨i + 1,n',by go_num,by omega,by first | rfl | go_num,m1,m2,HI',by trivial⟩,by simp [intOf]; omega⟩
              | (go_roundw
                 case rel => exact ⟨i + 1,n',by go_num,by omega,by first | rfl | go_num,m1,m2,HI',by trivial⟩
                 case measure => simp [intOf]; omega)
    · have hltd : decide ((i : Int) < (s.size : Int)) = false := by simp; omega
      have hend : nGo (s.data.toList.drop 1) 0 = some n := by rw [HI.out,List.drop_of_length_le (by rw [szl]; omega)]; rfl
      have hR := numR_neg_some HB.out hend
      have hf := HF.out n ⟨n1,by omega⟩
      obtain ⟨S,hS⟩ : ∃ S : ByteArray,Hid (S = ⟨(Lib.itoa n).toArray⟩) := ⟨_,rfl⟩
      have eS : S.toList = Lib.itoa n := by rw [hS.out,Lib.toList_data,ba_list]
      rw [← hS.out] at hf
      have HQ := Lib.hid (numYes (t := s.data.toList) ⟨n1,by omega⟩ hR)
      clear HI HF hend hR hS
      by_cases he : Lib.itoa n = s.data.toList
      · have d : (S.toList == s.toList) = true := by rw [eS,Lib.toList_data,he]; simp
        rw [decide_eq_true he] at HQ
        clear he eS
        go_wp2_with fail
        refine hf.mono ?_
        rintro e w1 ⟨rfl,b1⟩
        go_wp2_with fail
        go_ret2
        exact ⟨HQ.out,b1⟩
      · have d : (S.toList == s.toList) = false := by rw [eS,Lib.toList_data]; simpa using he
        rw [decide_eq_false he] at HQ
        clear he eS
        go_wp2_with fail
        refine hf.mono ?_
        rintro e w1 ⟨rfl,b1⟩
        go_wp2_with fail
        go_ret2
        exact ⟨HQ.out,b1⟩
set_option maxRecDepth 100000 in
set_option maxHeartbeats 4000000 in
theorem number_pos (V : Env) (s : ByteArray) (hs : s.size ≤ 140737488355328) (hB : s.data.toList.head? ≠ some 45) (w : World) (A : V.A w) :
    Calls Tryz.prog 61 #[.string s] w fun e w' => NumPost s.data.toList e ∧ Below w.heap.size w w' := by
  have HB := Lib.hid hB
  have HF : Hid (∀ v,InR v → _) := Lib.hid (fun v hv => finds V v hv.1 hv.2 w A)
  clear A
  by_cases hsz : 0 < s.size
  · have hsz' : (0 : Int) < (s.size : Int) := by omega
    obtain ⟨c0,hc0⟩ : ∃ c,s[0]'hsz = c := ⟨_,rfl⟩
    have d0 : ((c0.toNat : Int) == 45) = false := by
      rw [beq_eq_false_iff_ne]
      intro h
      apply hB
      rw [head_at hsz hc0]
      have : c0 = 45 := UInt8.toNat_inj.1 (by have : c0.toNat = 45 := by omega
                                              rw [this]; rfl)
      rw [this]
    clear hB
    go_enter Tryz.func61,Tryz.ntmps61
    go_wp2_with fail
    go_loopw [6,7,8] (fun s6 s7 _ wr => ∃ (i : Nat) (n : Int),s7 = .int .i64 i ∧ i ≤ s.size ∧ s6 = .int .i64 n ∧ -9223372036854775808 ≤ n ∧ n ≤ 0 ∧ Hid (nGo (s.data.toList.drop 0) 0 = nGo (s.data.toList.drop i) n) ∧ wr = w) (fun _ s7 _ _ => s.size - (intOf s7).toNat)
    case atStart => exact ⟨0,0,rfl,by omega,rfl,by omega,by omega,Lib.hid rfl,rfl⟩
    case round =>
      obtain ⟨i,n,rfl,hi,rfl,n1,n2,HI,rfl⟩ := hrel
      by_cases hlt : i < s.size
      · have hlt' : (i : Int) < (s.size : Int) := by omega
        obtain ⟨c,hc⟩ : ∃ c,s[i] = c := ⟨_,rfl⟩
        have hdr := drop_at hlt hc
        obtain ⟨x,hx⟩ : ∃ x : Nat,c.toNat = x := ⟨_,rfl⟩
        have hx256 : x < 256 := by rw [← hx]; exact c.toNat_lt
        by_cases h48 : x < 48
        · have d1 : (x : Int) < 48 := by omega
          have HQ := Lib.hid (numNo (t := s.data.toList) 0 (numR_pos_none HB.out (by rw [HI.out,hdr]; exact nGo_bad (.inl (by rw [hx]; exact h48)))))
          clear HI hdr HF
          go_wp2_with fail
          go_ret2
          exact ⟨HQ.out,Below.refl _ _⟩
        · have d1 : decide ((x : Int) < 48) = false := by simp; omega
          have d1' : (48 : Int) ≤ (x : Int) := by omega
          by_cases h57 : 57 < x
          · have d2 : (57 : Int) < (x : Int) := by omega
            have HQ := Lib.hid (numNo (t := s.data.toList) 0 (numR_pos_none HB.out (by rw [HI.out,hdr]; exact nGo_bad (.inr (by rw [hx]; exact h57)))))
            clear HI hdr HF
            go_wp2_with fail
            go_ret2
            exact ⟨HQ.out,Below.refl _ _⟩
          · have d2 : decide ((57 : Int) < (x : Int)) = false := by simp; omega
            have d2' : (x : Int) ≤ 57 := by omega
            obtain ⟨D,hD⟩ : ∃ D : Nat,Hid (x = 48 + D) := ⟨x - 48,Lib.hid (by omega)⟩
            have eD : (x : Int) - 48 = (D : Int) := by have := hD.out; omega
            have eW : IntKind.u8.wrap ((x : Int) - 48) = (D : Int) := by rw [IntKind.wrap_u8]; have := hD.out; omega
            have hD9 : (D : Int) ≤ 9 := by have := hD.out; omega
            obtain ⟨qz,hqz⟩ : ∃ q,Hid ((-9223372036854775808 + (D : Int)).tdiv 10 = q) := ⟨_,rfl⟩
            have eq1 : (-9223372036854775808 + (D : Int)).tdiv 10 = qz := hqz.out
            have hup := quo_up (D : Int) (by omega) hD9 n
            rw [hqz.out] at hup
            have q1 : -9223372036854775808 ≤ qz := by rw [← hqz.out]; exact (quo_b (D : Int) (by omega) hD9).1
            have q2 : qz ≤ 0 := by rw [← hqz.out]; exact (quo_b (D : Int) (by omega) hD9).2
            have hst : nGo (s.data.toList.drop i) n = if n < qz then none else nGo (s.data.toList.drop (i + 1)) (10 * n - D) := by
              rw [hdr,nGo,hx,if_neg (by omega),eD,hqz.out]
            by_cases hov : n < qz
            · have HQ := Lib.hid (numNo (t := s.data.toList) 0 (numR_pos_none HB.out (by rw [HI.out,hst,if_pos hov])))
              clear HI hdr HF hst hup
              go_wp2_with fail
              go_ret2
              exact ⟨HQ.out,Below.refl _ _⟩
            · have d3 : decide (n < qz) = false := by simpa using hov
              obtain ⟨n',hn'⟩ : ∃ n',Hid (10 * n - (D : Int) = n') := ⟨_,rfl⟩
              have en : 10 * n - (D : Int) = n' := hn'.out
              have m1 : -9223372036854775808 ≤ n' := by have := hn'.out; omega
              have m2 : n' ≤ 0 := by have := hn'.out; omega
              have m3 : -9223372036854775808 ≤ 10 * n := by have := hn'.out; omega
              have m4 : 10 * n ≤ 0 := by omega
              have HI' : Hid (nGo (s.data.toList.drop 0) 0 = nGo (s.data.toList.drop (i + 1)) n') := Lib.hid (by rw [HI.out,hst,if_neg hov,hn'.out])
              clear HI hdr HF hst hup hov
              go_wp2_with fail
              first
                | exact ⟨⟨i + 1,n',by go_num,by omega,by first | rfl | go_num,m1,m2,HI',by trivial⟩,by simp [intOf]; omega⟩
                | (go_roundw
                   case rel => exact ⟨i + 1,n',by go_num,by omega,by first | rfl | go_num,m1,m2,HI',by trivial⟩
                   case measure => simp [intOf]; omega)
      · have hltd : decide ((i : Int) < (s.size : Int)) = false := by simp; omega
        have hend : nGo (s.data.toList.drop 0) 0 = some n := by rw [HI.out,List.drop_of_length_le (by rw [szl]; omega)]; rfl
        by_cases hmin : n = -9223372036854775808
        · have HQ := Lib.hid (numNo (t := s.data.toList) 0 (numR_pos_min HB.out (hend.trans (by rw [hmin]))))
          subst hmin
          clear HI HF hend
          go_wp2_with fail
          go_ret2
          exact ⟨HQ.out,Below.refl _ _⟩
        · have dm : (n == -9223372036854775808) = false := by simpa using hmin
          have n3 : -9223372036854775808 < n := by omega
          obtain ⟨v,hv⟩ : ∃ v,Hid (-n = v) := ⟨_,rfl⟩
          have ev : -n = v := hv.out
          have v1 : 0 ≤ v := by omega
          have v2 : v ≤ 9223372036854775807 := by omega
          have hR := numR_pos_some HB.out hend hmin
          rw [ev] at hR
          have hf := HF.out v ⟨by omega,v2⟩
          obtain ⟨S,hS⟩ : ∃ S : ByteArray,Hid (S = ⟨(Lib.itoa v).toArray⟩) := ⟨_,rfl⟩
          have eS : S.toList = Lib.itoa v := by rw [hS.out,Lib.toList_data,ba_list]
          rw [← hS.out] at hf
          have HQ := Lib.hid (numYes (t := s.data.toList) ⟨by omega,v2⟩ hR)
          clear HI HF hend hR hS hmin
          by_cases he : Lib.itoa v = s.data.toList
          · have d : (S.toList == s.toList) = true := by rw [eS,Lib.toList_data,he]; simp
            rw [decide_eq_true he] at HQ
            clear he eS
            go_wp2_with fail
            refine hf.mono ?_
            rintro e w1 ⟨rfl,b1⟩
            go_wp2_with fail
            go_ret2
            exact ⟨HQ.out,b1⟩
          · have d : (S.toList == s.toList) = false := by rw [eS,Lib.toList_data]; simpa using he
            rw [decide_eq_false he] at HQ
            clear he eS
            go_wp2_with fail
            refine hf.mono ?_
            rintro e w1 ⟨rfl,b1⟩
            go_wp2_with fail
            go_ret2
            exact ⟨HQ.out,b1⟩
  · have hsz' : decide ((0 : Int) < (s.size : Int)) = false := decide_eq_false (by omega)
    have hsz'' : decide (0 < s.size) = false := by simpa using hsz
    clear hB
    go_enter Tryz.func61,Tryz.ntmps61
    go_wp2_with fail
    go_loopw [6,7,8] (fun s6 s7 _ wr => ∃ (i : Nat) (n : Int),s7 = .int .i64 i ∧ i ≤ s.size ∧ s6 = .int .i64 n ∧ -9223372036854775808 ≤ n ∧ n ≤ 0 ∧ Hid (nGo (s.data.toList.drop 0) 0 = nGo (s.data.toList.drop i) n) ∧ wr = w) (fun _ s7 _ _ => s.size - (intOf s7).toNat)
    case atStart => exact ⟨0,0,rfl,by omega,rfl,by omega,by omega,Lib.hid rfl,rfl⟩
    case round =>
      obtain ⟨i,n,rfl,hi,rfl,n1,n2,HI,rfl⟩ := hrel
      by_cases hlt : i < s.size
      · have hlt' : (i : Int) < (s.size : Int) := by omega
        obtain ⟨c,hc⟩ : ∃ c,s[i] = c := ⟨_,rfl⟩
        have hdr := drop_at hlt hc
        obtain ⟨x,hx⟩ : ∃ x : Nat,c.toNat = x := ⟨_,rfl⟩
        have hx256 : x < 256 := by rw [← hx]; exact c.toNat_lt
        by_cases h48 : x < 48
        · have d1 : (x : Int) < 48 := by omega
          have HQ := Lib.hid (numNo (t := s.data.toList) 0 (numR_pos_none HB.out (by rw [HI.out,hdr]; exact nGo_bad (.inl (by rw [hx]; exact h48)))))
          clear HI hdr HF
          go_wp2_with fail
          go_ret2
          exact ⟨HQ.out,Below.refl _ _⟩
        · have d1 : decide ((x : Int) < 48) = false := by simp; omega
          have d1' : (48 : Int) ≤ (x : Int) := by omega
          by_cases h57 : 57 < x
          · have d2 : (57 : Int) < (x : Int) := by omega
            have HQ := Lib.hid (numNo (t := s.data.toList) 0 (numR_pos_none HB.out (by rw [HI.out,hdr]; exact nGo_bad (.inr (by rw [hx]; exact h57)))))
            clear HI hdr HF
            go_wp2_with fail
            go_ret2
            exact ⟨HQ.out,Below.refl _ _⟩
          · have d2 : decide ((57 : Int) < (x : Int)) = false := by simp; omega
            have d2' : (x : Int) ≤ 57 := by omega
            obtain ⟨D,hD⟩ : ∃ D : Nat,Hid (x = 48 + D) := ⟨x - 48,Lib.hid (by omega)⟩
            have eD : (x : Int) - 48 = (D : Int) := by have := hD.out; omega
            have eW : IntKind.u8.wrap ((x : Int) - 48) = (D : Int) := by rw [IntKind.wrap_u8]; have := hD.out; omega
            have hD9 : (D : Int) ≤ 9 := by have := hD.out; omega
            obtain ⟨qz,hqz⟩ : ∃ q,Hid ((-9223372036854775808 + (D : Int)).tdiv 10 = q) := ⟨_,rfl⟩
            have eq1 : (-9223372036854775808 + (D : Int)).tdiv 10 = qz := hqz.out
            have hup := quo_up (D : Int) (by omega) hD9 n
            rw [hqz.out] at hup
            have q1 : -9223372036854775808 ≤ qz := by rw [← hqz.out]; exact (quo_b (D : Int) (by omega) hD9).1
            have q2 : qz ≤ 0 := by rw [← hqz.out]; exact (quo_b (D : Int) (by omega) hD9).2
            have hst : nGo (s.data.toList.drop i) n = if n < qz then none else nGo (s.data.toList.drop (i + 1)) (10 * n - D) := by
              rw [hdr,nGo,hx,if_neg (by omega),eD,hqz.out]
            by_cases hov : n < qz
            · have HQ := Lib.hid (numNo (t := s.data.toList) 0 (numR_pos_none HB.out (by rw [HI.out,hst,if_pos hov])))
              clear HI hdr HF hst hup
              go_wp2_with fail
              go_ret2
              exact ⟨HQ.out,Below.refl _ _⟩
            · have d3 : decide (n < qz) = false := by simpa using hov
              obtain ⟨n',hn'⟩ : ∃ n',Hid (10 * n - (D : Int) = n') := ⟨_,rfl⟩
              have en : 10 * n - (D : Int) = n' := hn'.out
              have m1 : -9223372036854775808 ≤ n' := by have := hn'.out; omega
              have m2 : n' ≤ 0 := by have := hn'.out; omega
              have m3 : -9223372036854775808 ≤ 10 * n := by have := hn'.out; omega
              have m4 : 10 * n ≤ 0 := by omega
              have HI' : Hid (nGo (s.data.toList.drop 0) 0 = nGo (s.data.toList.drop (i + 1)) n') := Lib.hid (by rw [HI.out,hst,if_neg hov,hn'.out])
              clear HI hdr HF hst hup hov
              go_wp2_with fail
              first
                | exact ⟨⟨i + 1,n',by go_num,by omega,by first | rfl | go_num,m1,m2,HI',by trivial⟩,by simp [intOf]; omega⟩
                | (go_roundw
                   case rel => exact ⟨i + 1,n',by go_num,by omega,by first | rfl | go_num,m1,m2,HI',by trivial⟩
                   case measure => simp [intOf]; omega)
      · have hltd : decide ((i : Int) < (s.size : Int)) = false := by simp; omega
        have hend : nGo (s.data.toList.drop 0) 0 = some n := by rw [HI.out,List.drop_of_length_le (by rw [szl]; omega)]; rfl
        by_cases hmin : n = -9223372036854775808
        · have HQ := Lib.hid (numNo (t := s.data.toList) 0 (numR_pos_min HB.out (hend.trans (by rw [hmin]))))
          subst hmin
          clear HI HF hend
          go_wp2_with fail
          go_ret2
          exact ⟨HQ.out,Below.refl _ _⟩
        · have dm : (n == -9223372036854775808) = false := by simpa using hmin
          have n3 : -9223372036854775808 < n := by omega
          obtain ⟨v,hv⟩ : ∃ v,Hid (-n = v) := ⟨_,rfl⟩
          have ev : -n = v := hv.out
          have v1 : 0 ≤ v := by omega
          have v2 : v ≤ 9223372036854775807 := by omega
          have hR := numR_pos_some HB.out hend hmin
          rw [ev] at hR
          have hf := HF.out v ⟨by omega,v2⟩
          obtain ⟨S,hS⟩ : ∃ S : ByteArray,Hid (S = ⟨(Lib.itoa v).toArray⟩) := ⟨_,rfl⟩
          have eS : S.toList = Lib.itoa v := by rw [hS.out,Lib.toList_data,ba_list]
          rw [← hS.out] at hf
          have HQ := Lib.hid (numYes (t := s.data.toList) ⟨by omega,v2⟩ hR)
          clear HI HF hend hR hS hmin
          by_cases he : Lib.itoa v = s.data.toList
          · have d : (S.toList == s.toList) = true := by rw [eS,Lib.toList_data,he]; simp
            rw [decide_eq_true he] at HQ
            clear he eS
            go_wp2_with fail
            refine hf.mono ?_
            rintro e w1 ⟨rfl,b1⟩
            go_wp2_with fail
            go_ret2
            exact ⟨HQ.out,b1⟩
          · have d : (S.toList == s.toList) = false := by rw [eS,Lib.toList_data]; simpa using he
            rw [decide_eq_false he] at HQ
            clear he eS
            go_wp2_with fail
            refine hf.mono ?_
            rintro e w1 ⟨rfl,b1⟩
            go_wp2_with fail
            go_ret2
            exact ⟨HQ.out,b1⟩
theorem number_any' (V : Env) (s : ByteArray) (hs : s.size ≤ 140737488355328) (w : World) (A : V.A w) :
  Calls Tryz.prog 61 #[.string s] w fun e w' => NumPost s.data.toList e ∧ Below w.heap.size w w' := by
 by_cases h : s.data.toList.head? = some 45
 ·exact number_neg V s hs h w A
 ·exact number_pos V s hs h w A
end Go.Proofs.YtalaajniammggaaGreatDoor
