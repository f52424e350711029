/- The document's Parse. -/
import Derived.Test.YtalaajniammggaaGreatDoorXRe
import Derived.Test.YtalaajniammggaaGreatDoorXAg
import Derived.Test.YtalaajniammggaaGreatDoorXAi
import Derived.Test.YtalaajniammggaaGreatDoorXPg
import Derived.Test.YtalaajniammggaaGreatDoorXRa
namespace Go.Proofs.YtalaajniammggaaGreatDoor
open Go.RowKit
theorem own_noneI (w : World) : (w.alloc (.cells #[] 37)).ownsRow w.heap.size 37 5 (.slice (some ⟨w.heap.size,0,none⟩) 0 0) 0 (pCells []) :=
 ⟨by simp [pCells],.inr ⟨w.heap.size,0,#[],rfl,Nat.le_refl _,heap_alloc_new w _,by simp,by unfold maxLen; omega,by simp,by simp [pCells]⟩⟩
set_option maxRecDepth 100000 in
set_option maxHeartbeats 4000000 in
theorem rparse_prog (V : Env) (D : DEnv V) (s : ByteArray) (hs : s.size ≤ 140737488355328) (w : World) (A : V.A w) :
    Calls Tryz.prog 14 #[.string s] w fun e w' => PrsPost (readP V.fp s.data.toList) w e w' := by
  obtain ⟨i0,hi0,hz0,hz1,hz2⟩ := info_parts infoIns
  obtain ⟨N,hN⟩ : ∃ N,Hid (endsN s.data.toList = N) := ⟨_,rfl⟩
  obtain ⟨R,hR⟩ : ∃ R,Hid (R = parseL V.fp N s.data.toList []) := ⟨_,rfl⟩
  have eR : readP V.fp s.data.toList = R := by rw [hR.out,← hN.out]; rfl
  rw [eR]
  have HA := Lib.hid A
  clear eR A
  go_enter Tryz.func14,Tryz.ntmps14
  go_upto_block 0 with fail
  go_cut [6,7] from 14 to 25 (fun s6 _ wy => s6 = .int .i64 N ∧ wy = w)
  case first =>
    go_wp2_with fail
    go_loopw [6,7] (fun s6 s7 wr => ∃ i c : Nat,s7 = .int .i64 i ∧ i ≤ s.size ∧ s6 = .int .i64 c ∧ c ≤ i ∧ Hid (c + endsN (s.data.toList.drop i) = N) ∧ wr = w) (fun _ s7 _ => s.size - (intOf s7).toNat)
    case atStart => exact ⟨0,0,rfl,by omega,rfl,by omega,Lib.hid (by rw [List.drop_zero,Nat.zero_add]; exact hN.out),rfl⟩
    case round =>
      clear hN hR
      obtain ⟨i,c,rfl,hi,rfl,hci,HI,rfl⟩ := hrel
      by_cases hlt : i < s.size
      · have hlt' : (i : Int) < (s.size : Int) := by omega
        obtain ⟨x,hx⟩ : ∃ x,s[i] = x := ⟨_,rfl⟩
        have hdr := drop_at hlt hx
        by_cases h10 : x = 10
        · have d : ((x.toNat : Int) == 10) = true := by subst h10; rfl
          have HI' : Hid (c + 1 + endsN (s.data.toList.drop (i + 1)) = N) := Lib.hid (by
            have := HI.out
            rw [hdr] at this
            unfold endsN at this ⊢
            rw [h10,List.count_cons_self] at this
            omega)
          clear HI hdr h10
          go_wp2_with fail
          first
            | exact ⟨⟨i + 1,c + 1,by go_num,by omega,by go_num,by omega,HI',by trivial⟩,by simp [intOf]; omega⟩
            | (go_roundw
               case rel => exact ⟨i + 1,c + 1,by go_num,by omega,by go_num,by omega,HI',by trivial⟩
               case measure => simp [intOf]; omega)
        · have d : ((x.toNat : Int) == 10) = false := by
            rw [beq_eq_false_iff_ne]
            intro h
            exact h10 (UInt8.toNat_inj.1 (by have : x.toNat = 10 := by omega
                                             rw [this]; rfl))
          have HI' : Hid (c + endsN (s.data.toList.drop (i + 1)) = N) := Lib.hid (by
            have := HI.out
            rw [hdr] at this
            unfold endsN at this ⊢
            rw [List.count_cons_of_ne h10] at this
            omega)
          clear HI hdr h10
          go_wp2_with fail
          first
            | exact ⟨⟨i + 1,c,by go_num,by omega,rfl,by omega,HI',by trivial⟩,by simp [intOf]; omega⟩
            | (go_roundw
               case rel => exact ⟨i + 1,c,by go_num,by omega,rfl,by omega,HI',by trivial⟩
               case measure => simp [intOf]; omega)
      · have hltd : decide ((i : Int) < (s.size : Int)) = false := by simp; omega
        have HE : Hid (c = N) := Lib.hid (by
          have := HI.out
          rw [List.drop_of_length_le (by rw [szl]; omega)] at this
          simpa [endsN] using this)
        clear HI
        go_wp2_with fail
        go_meet
        exact ⟨by rw [HE.out],by trivial⟩
  case rest =>
    obtain ⟨rfl,hwc⟩ := hcut
    subst hwc
    obtain ⟨wb,hwb⟩ : ∃ W,W = wc := ⟨_,rfl⟩
    subst hwb
    have HO0 := Lib.hid (own_noneI wb)
    have HB0 : Hid (Below wb.heap.size wb (wb.alloc (.cells #[] 37))) := Lib.hid ((Below.refl _ wb).alloc (Nat.le_refl _) _)
    go_wp2_with fail
    go_loopw [0,8,9,10,11,12,13] (fun s0 s8 s9 _ _ _ _ wr => ∃ (g cp k : Nat) (rest : ByteArray) (acc : List Ins),s0 = .string rest ∧ rest.size ≤ s.size ∧ s8 = .slice (some ⟨g,0,none⟩) k cp ∧ k ≤ 256 ∧ s9 = .int .i64 ((k : Int) + 1) ∧ Hid (acc.length = k) ∧ Hid (wr.ownsRow wb.heap.size 37 5 (.slice (some ⟨g,0,none⟩) k cp) k (pCells acc)) ∧ Hid (R = parseL V.fp N rest.data.toList acc) ∧ Hid (Below wb.heap.size wb wr)) (fun s0 _ _ _ _ _ _ _ => match s0 with | .string x => x.size | _ => 0)
    case atStart => exact ⟨wb.heap.size,0,0,s,[],rfl,Nat.le_refl _,rfl,by omega,rfl,Lib.hid rfl,HO0,hR,HB0⟩
    case round =>
      clear HO0 HB0 hR hN
      obtain ⟨g,cp,k,rest,acc,rfl,hrs,rfl,hk,rfl,HK,HO,HR,HB⟩ := hrel
      by_cases h0 : rest.size = 0
      · have er : rest.data.toList = [] := List.length_eq_zero_iff.1 (by rw [szl]; exact h0)
        have d0 : decide ((0 : Int) < (rest.size : Int)) = false := decide_eq_false (by omega)
        have d0' : decide (0 < rest.size) = false := decide_eq_false (by omega)
        have HE : Hid (R = (acc,0,0,0)) := Lib.hid (HR.out.trans (prs_nil er))
        have HP : Hid (PrsPost R wb (.returned (.tuple #[.slice (some ⟨g,0,none⟩) k cp,.int .i64 0,.int .i64 0,.int .i64 0])) wr) := Lib.hid (by
          rw [HE.out]
          exact ⟨_,rfl,HB.out,.inl ⟨rfl,g,cp,by rw [HK.out],by simp only; rw [HK.out]; exact HO.out⟩⟩)
        clear HR HE HO er h0
        go_wp2_with fail
        (try simp only [Exit.inBlock,Exit.then]); refine bodyPost_ret (results_tmp4 rfl _ _ _) rfl ?_
        exact HP.out
      · have hne : Hid (rest.data.toList ≠ []) := Lib.hid (fun h => h0 (by rw [← szl,h]; rfl))
        have d0 : (0 : Int) < (rest.size : Int) := by omega
        have d0' : 0 < rest.size := by omega
        obtain ⟨L,hL⟩ : ∃ L,Hid ((upB 10 rest.data.toList).length = L) := ⟨_,rfl⟩
        have hLs : L ≤ rest.size := by rw [← hL.out,← szl]; exact upB_len _ _
        go_upto_block 4 with fail
        go_cut [10] from 32 to 43 (fun s10 wy => s10 = .int .i64 L ∧ wy = wr)
        case first =>
          go_wp2_with fail
          go_loopw [10] (fun s10 wq => ∃ i : Nat,s10 = .int .i64 i ∧ i ≤ rest.size ∧ Hid (i + (upB 10 (rest.data.toList.drop i)).length = L) ∧ wq = wr) (fun s10 _ => rest.size - (intOf s10).toNat)
          case atStart => exact ⟨0,rfl,by omega,Lib.hid (by rw [List.drop_zero,Nat.zero_add]; exact hL.out),rfl⟩
          case round =>
            clear hL HR HO HB
            obtain ⟨i,rfl,hi,HI,rfl⟩ := hrel
            by_cases hlt : i < rest.size
            · have hlt' : (i : Int) < (rest.size : Int) := by omega
              obtain ⟨c,hc⟩ : ∃ c,rest[i] = c := ⟨_,rfl⟩
              have hdr := drop_at hlt hc
              by_cases h10 : c = 10
              · have d : ((c.toNat : Int) == 10) = true := by subst h10; rfl
                have HE : Hid (L = i) := Lib.hid (by have := HI.out; rw [hdr,upB_at_no h10] at this; simpa using this.symm)
                clear HI hdr h10
                go_wp2_with fail
                go_meet
                exact ⟨by rw [HE.out],by trivial⟩
              · have d : ((c.toNat : Int) == 10) = false := by
                  rw [beq_eq_false_iff_ne]
                  intro h
                  exact h10 (UInt8.toNat_inj.1 (by have : c.toNat = 10 := by omega
                                                   rw [this]; rfl))
                have HI' : Hid (i + 1 + (upB 10 (rest.data.toList.drop (i + 1))).length = L) := Lib.hid (by
                  have := HI.out
                  rw [hdr,upB_at_yes h10,List.length_cons] at this
                  omega)
                clear HI hdr h10
                go_wp2_with fail
                first
                  | exact ⟨⟨i + 1,by go_num,by omega,HI',by trivial⟩,by simp [intOf]; omega⟩
                  | (go_roundw
                     case rel => exact ⟨i + 1,by go_num,by omega,HI',by trivial⟩
                     case measure => simp [intOf]; omega)
            · have hltd : decide ((i : Int) < (rest.size : Int)) = false := by simp; omega
              have HE : Hid (L = i) := Lib.hid (by
                have := HI.out
                rw [List.drop_of_length_le (by rw [szl]; omega)] at this
                simpa [upB] using this.symm)
              clear HI
              go_wp2_with fail
              go_meet
              exact ⟨by rw [HE.out],by trivial⟩
        case rest =>
          obtain ⟨rfl,hwy⟩ := hcut
          obtain rfl : wr = wc := hwy.symm
          by_cases hk2 : k = 256
          · have d1 : (256 : Int) < (k : Int) + 1 := by omega
            have HE : Hid (R = ([],3,(k : Int) + 1,0)) := Lib.hid (by rw [HR.out,prs_many hne.out (by rw [HK.out]; omega),HK.out])
            have HP : Hid (PrsPost R wb (.returned (.tuple #[.slice none 0 0,.int .i64 3,.int .i64 ((k : Int) + 1),.int .i64 0])) wr) := Lib.hid (by
              rw [HE.out]
              exact ⟨_,rfl,HB.out,.inr ⟨by simp,rfl,rfl⟩⟩)
            clear HR HE HO hk2
            go_wp2_with fail
            (try simp only [Exit.inBlock,Exit.then]); refine bodyPost_ret (results_tmp4 rfl _ _ _) rfl ?_
            exact HP.out
          · have hk3 : k < 256 := by omega
            have d1 : decide ((256 : Int) < (k : Int) + 1) = false := by simp; omega
            have d1' : (k : Int) + 1 ≤ 256 := by omega
            obtain ⟨P,hP⟩ : ∃ P : ByteArray,Hid (rest.extract 0 L = P) := ⟨_,rfl⟩
            have HPl : Hid (P.data.toList = upB 10 rest.data.toList) := Lib.hid (by
              rw [← hP.out,ext_list,List.drop_zero,Nat.sub_zero,← hL.out]
              exact upB_take 10 _)
            have hPz : P.size = L := by rw [← szl,HPl.out]; exact hL.out
            have hsl : ∀ W,(Instr.slice 9 (.string rest) none (some (.int .i64 (L : Int))) none).run Tryz.prog W = .ok (.string P) W := fun W => by
              have c2 : (L : Int) ≤ (rest.size : Int) := by omega
              rw [← hP.out]
              simp [go_sem,c2]
            have hRL := rread_any V D P (by omega) (N : Int) wr (V.kept HA.out HB.out)
            rw [HPl.out] at hRL
            obtain ⟨R1,hR1⟩ : ∃ r,Hid (lnL V.fp (upB 10 rest.data.toList) (N : Int) = r) := ⟨_,rfl⟩
            rw [hR1.out] at hRL
            obtain ⟨x,E,q⟩ := R1
            clear hP hk2
            go_wp2_with fail
            refine hRL.mono ?_
            rintro e w3 ⟨rfl,b3⟩
            have HO3 := Lib.hid (owns_below HO.out b3)
            have HB3 := Lib.hid (HB.out.trans (b3.mono HB.out.size))
            have hs3 := HB3.out.size
            clear hRL b3 HO HB
            simp only [insV]
            by_cases hE : E = 0
            · subst hE
              by_cases hfs : L = rest.size
              · have HE : Hid (R = ([],5,(k : Int) + 1,(L : Int))) := Lib.hid (by
                  rw [HR.out,prs_short hne.out (by rw [HK.out]; omega) hR1.out (by rw [hL.out,szl]; exact hfs),HK.out,hL.out])
                have HP : Hid (∀ o,PrsPost R wb (.returned (.tuple #[.slice none 0 0,.int .i64 5,.int .i64 ((k : Int) + 1),.int .i64 (L : Int)])) (w3.alloc o)) := Lib.hid (fun o => by
                  rw [HE.out]
                  exact ⟨_,rfl,HB3.out.alloc hs3 o,.inr ⟨by simp,rfl,rfl⟩⟩)
                have d2 : ((L : Int) == (rest.size : Int)) = true := by rw [beq_iff_eq]; omega
                clear HR HE HO3 hR1 hfs
                go_wp2_with fail
                (try simp only [Exit.inBlock,Exit.then]); refine bodyPost_ret (results_tmp4 rfl _ _ _) rfl ?_
                exact HP.out _
              · have hLlt : L < rest.size := by omega
                have d2 : ((L : Int) == (rest.size : Int)) = false := by rw [beq_eq_false_iff_ne]; omega
                obtain ⟨Rr,hRr⟩ : ∃ T : ByteArray,Hid (rest.extract (L + 1) rest.size = T) := ⟨_,rfl⟩
                have hRz : Rr.size + L + 1 = rest.size := by rw [← hRr.out,ByteArray.size_extract]; omega
                have hRl : Rr.data.toList = rest.data.toList.drop ((upB 10 rest.data.toList).length + 1) := by
                  rw [← hRr.out,ext_list,hL.out,List.take_of_length_le]
                  rw [List.length_drop,szl]
                  exact Nat.le_refl _
                have hs2 : ∀ W,(Instr.slice 9 (.string rest) (some (.int .i64 ((L : Int) + 1))) none none).run Tryz.prog W = .ok (.string Rr) W := fun W => by
                  have c2 : (L : Int) + 1 ≤ (rest.size : Int) := by omega
                  have c3 : (0 : Int) ≤ (L : Int) + 1 := by omega
                  rw [← hRr.out]
                  simp [go_sem,c2,c3]
                have HR' : Hid (R = parseL V.fp N Rr.data.toList (acc ++ [x])) := Lib.hid (by
                  rw [HR.out,prs_go hne.out (by rw [HK.out]; omega) hR1.out (by rw [hL.out,szl]; omega),← hRl])
                have HK' : Hid ((acc ++ [x]).length = k + 1) := Lib.hid (by rw [List.length_append,HK.out]; rfl)
                clear HR hR1 hRl hRr hfs
                go_wp2_with (at_builtin; (refine wpList_append_lies _ rfl _ _ 23 rfl wb.heap.size 37 i0 (.agg #[.int .i64 0,.int .i64 0,.int .i64 0,.int .i64 0,.int .i64 0]) 5 40 Tryz.underlying23 hi0 hz0 hz1 hz2 rfl (by decide) (.slice (some ⟨g,0,none⟩) k cp) _ _ rfl ((HO3.out.alloc _).alloc _) ⟨_,0,none⟩ 1 1 (insCells x) rfl rfl (cells_new [.int .i64 x.op,.int .i64 x.a,.int .i64 x.b,.int .i64 x.c,.int .i64 x.imm] _ (by simp)) (by simp [insCells,Value.oneCell']) (by decide) (by unfold maxLen; omega) (by omega) (by simp; omega) _ rfl ?_); intro g3 cap3 w4 hown4 hgrow4 hlies4 hlt4)
                have hb4 : Below wb.heap.size wb w4 := ((HB3.out.alloc hs3 _).alloc (by simp; omega) _).grown hgrow4 (by simp; omega) (fun b hb => (HO3.out.lt b hb).1)
                rw [← pCells_snoc] at hown4
                have HO4 := Lib.hid hown4
                have HB4 := Lib.hid hb4
                clear hown4 hb4 hgrow4 hlies4 hlt4 HO3 HB3
                go_wp2_with fail
                first
                  | exact ⟨⟨g3,cap3,k + 1,Rr,acc ++ [x],rfl,by omega,rfl,by omega,by go_num,HK',HO4,HR',HB4⟩,by simp; omega⟩
                  | (go_roundw
                     case rel => exact ⟨g3,cap3,k + 1,Rr,acc ++ [x],rfl,by omega,rfl,by omega,by go_num,HK',HO4,HR',HB4⟩
                     case measure => simp; omega)
            · have dE : (E == 0) = false := by simpa using hE
              have HE : Hid (R = ([],E,(k : Int) + 1,q)) := Lib.hid (by rw [HR.out,prs_wrong hne.out (by rw [HK.out]; omega) hR1.out hE,HK.out])
              have HP : Hid (∀ o,PrsPost R wb (.returned (.tuple #[.slice none 0 0,.int .i64 E,.int .i64 ((k : Int) + 1),.int .i64 q])) (w3.alloc o)) := Lib.hid (fun o => by
                rw [HE.out]
                exact ⟨_,rfl,HB3.out.alloc hs3 o,.inr ⟨hE,rfl,rfl⟩⟩)
              clear HR HE HO3 hR1 hE
              go_wp2_with fail
              (try simp only [Exit.inBlock,Exit.then]); refine bodyPost_ret (results_tmp4 rfl _ _ _) rfl ?_
              exact HP.out _
end Go.Proofs.YtalaajniammggaaGreatDoor

/- AsmReads: the walk. -/
namespace Go.Proofs.YtalaajniammggaaGreatDoor
open Go.RowKit
theorem Prg.nil (w : World) (a : Option Addr) : Prg w a [] := fun i hi => absurd hi (Nat.not_lt_zero i)
theorem read_len {fp : Int → List UInt8} (F : FP fp) (s : List UInt8) : (readP fp s).1.length ≤ 256 := by
 obtain ⟨R,hR⟩ : ∃ R,readP fp s = R := ⟨_,rfl⟩
 obtain ⟨m,e,a,b⟩ := R
 rw [hR]
 have h := print_read F hR
 by_cases he : e = 0
 ·exact (may_iff.1 (h.1 he).2.2.2.1).1
 ·rw [(h.2 he).1]
  simp
end Go.Proofs.YtalaajniammggaaGreatDoor

/- What the document's floats give. -/
namespace Go.Proofs.YtalaajniammggaaGreatDoor
open Go.RowKit
theorem denv : DEnv env where
 pr v w := rprint_any v w
 pa s w := by
  refine (rparse_any s w).mono ?_
  rintro e w' ⟨v,rfl,hv,hb⟩
  rcases hv with ⟨rfl,hn⟩ | ⟨b,rfl,hb1,hp⟩
  ·exact ⟨0,4,.inl ⟨by decide,fun u _ he => hn (wd u) (wd_lt u) he⟩,rfl,hb⟩
  ·refine ⟨wrap64 (b : Int),0,.inr ⟨?_,rfl,?_⟩,rfl,hb⟩
   ·unfold InR wrap64
    omega
   ·show printL (wd (wrap64 (b : Int))) = _
    have e : wd (wrap64 (b : Int)) = b := by
     unfold wd wrap64
     rw [IntKind.wrap_u64]
     omega
    rw [e]
    exact hp
end Go.Proofs.YtalaajniammggaaGreatDoor
