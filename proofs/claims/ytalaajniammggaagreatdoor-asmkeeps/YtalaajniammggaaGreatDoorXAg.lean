/- Parse. -/
import Derived.Test.YtalaajniammggaaGreatDoorXAf
import Derived.Test.YtalaajniammggaaGreatDoorXAa
import Derived.Deep.CutRange
import Derived.Deep.CutBlock
import Derived.Deep.AppendLies
import Derived.OwnWalk
import Derived.Test.YtalaajniammggaaGreatDoorXAd
namespace Go.Proofs.YtalaajniammggaaGreatDoor
open Go.RowKit
theorem infoIns : (Tryz.prog.info? 37).map (fun i => (i.zero,i.size,i.bytes)) = some (some (.agg #[.int .i64 0,.int .i64 0,.int .i64 0,.int .i64 0,.int .i64 0]),5,40) := by kernel_rfl
theorem cells_new {w : World} (vs : List Value) (t : TypeId) {b : Nat} (hb : w.heap.size = b) : ∀ j u,vs[j]? = some u → (w.alloc (.cells vs.toArray t)).cell? ((⟨b,0,none⟩ : Addr).add j) = some u := by
 subst hb
 intro j u hj
 have h := heap_alloc_new w (.cells vs.toArray t)
 rw [Addr.add_lit,Nat.zero_add,Lib.cell_of_heap h]
 simpa using hj
def PrsPost (R : List Ins × Int × Int × Int) (w : World) (e : Ending) (w' : World) : Prop :=
 ∃ sl,e = .returned (.tuple #[sl,.int .i64 R.2.1,.int .i64 R.2.2.1,.int .i64 R.2.2.2]) ∧ Below w.heap.size w w' ∧
  ((R.2.1 = 0 ∧ ∃ g cap,sl = .slice (some ⟨g,0,none⟩) R.1.length cap ∧ w'.ownsRow w.heap.size 37 5 sl R.1.length (pCells R.1)) ∨ (R.2.1 ≠ 0 ∧ R.1 = [] ∧ sl = .slice none 0 0))
theorem word_ix : ∀ j : Nat,j < 34 → ∀ W : World,(Instr.index 51 (.agg wordsA) (.int .i64 (j : Int))).run Tryz.prog W = .ok (.string ⟨(wordsL.getD j []).toArray⟩) W
 | 0,_,_ => by kernel_rfl
 | 1,_,_ => by kernel_rfl
 | 2,_,_ => by kernel_rfl
 | 3,_,_ => by kernel_rfl
 | 4,_,_ => by kernel_rfl
 | 5,_,_ => by kernel_rfl
 | 6,_,_ => by kernel_rfl
 | 7,_,_ => by kernel_rfl
 | 8,_,_ => by kernel_rfl
 | 9,_,_ => by kernel_rfl
 | 10,_,_ => by kernel_rfl
 | 11,_,_ => by kernel_rfl
 | 12,_,_ => by kernel_rfl
 | 13,_,_ => by kernel_rfl
 | 14,_,_ => by kernel_rfl
 | 15,_,_ => by kernel_rfl
 | 16,_,_ => by kernel_rfl
 | 17,_,_ => by kernel_rfl
 | 18,_,_ => by kernel_rfl
 | 19,_,_ => by kernel_rfl
 | 20,_,_ => by kernel_rfl
 | 21,_,_ => by kernel_rfl
 | 22,_,_ => by kernel_rfl
 | 23,_,_ => by kernel_rfl
 | 24,_,_ => by kernel_rfl
 | 25,_,_ => by kernel_rfl
 | 26,_,_ => by kernel_rfl
 | 27,_,_ => by kernel_rfl
 | 28,_,_ => by kernel_rfl
 | 29,_,_ => by kernel_rfl
 | 30,_,_ => by kernel_rfl
 | 31,_,_ => by kernel_rfl
 | 32,_,_ => by kernel_rfl
 | 33,_,_ => by kernel_rfl
 | j + 34,h,_ => absurd h (by omega)
set_option maxRecDepth 100000 in
set_option maxHeartbeats 4000000 in
theorem parse_any (V : Env) (s : ByteArray) (hs : s.size ≤ 140737488355328) (w : World) (A : V.A w) :
    Calls Tryz.prog 13 #[.string s] w fun e w' => PrsPost (readP V.fp s.data.toList) w e w' := by
  obtain ⟨i0,hi0,hz0,hz1,hz2⟩ := info_parts infoIns
  have hCnt := Tryz.strings_Count_one s 10
  obtain ⟨N,hN⟩ : ∃ N,Hid (Lib.countByte s.data.toList 10 = N) := ⟨_,rfl⟩
  rw [hN.out] at hCnt
  obtain ⟨R,hR⟩ : ∃ R,Hid (R = parseL V.fp N s.data.toList []) := ⟨_,rfl⟩
  have eR : readP V.fp s.data.toList = R := by rw [hR.out,← hN.out]; rfl
  rw [eR]
  have hNle : N ≤ s.size := by rw [← hN.out]; unfold Lib.countByte; rw [← szl s]; exact List.count_le_length
  have HA := Lib.hid A
  clear eR A
  go_enter Tryz.func13,Tryz.ntmps13
  go_wp2_with fail
  go_step3
  go_wp2_with fail
  refine (hCnt _).mono ?_
  rintro e w1 ⟨rfl,rfl⟩
  go_upto_region 2 with fail
  go_cut [7] from 23 to 25 (fun s7 wy => ∃ g cp : Nat,s7 = .slice (some ⟨g,0,none⟩) 0 cp ∧ Hid (wy.ownsRow w1.heap.size 37 5 s7 0 (pCells [])) ∧ Hid (Below w1.heap.size w1 wy))
  case first =>
    by_cases h256 : (N : Int) < 256
    · go_wp2_with (at_make; refine wpList_make_own _ rfl _ _ 23 rfl w1.heap.size 37 i0 (.agg #[.int .i64 0,.int .i64 0,.int .i64 0,.int .i64 0,.int .i64 0]) 5 Tryz.underlying23 hi0 hz0 hz1 .i64 .i64 _ N rfl rfl (by first | rfl | omega) (by rw [hz2]; omega) (by unfold maxLen; omega) (Nat.le_refl _) ?_; intro w0 hown0 hg0)
      go_meet
      exact ⟨_,_,rfl,Lib.hid hown0,Lib.hid ((Below.refl _ _).grown hg0 (Nat.le_refl _) (fun k hk => by cases hk))⟩
    · have h256' : decide ((N : Int) < 256) = false := by simpa using h256
      have h256'' : (256 : Int) ≤ (N : Int) := by omega
      by_cases h3 : (256 : Int) < (N : Int)
      · go_wp2_with (at_make; refine wpList_make_own _ rfl _ _ 23 rfl w1.heap.size 37 i0 (.agg #[.int .i64 0,.int .i64 0,.int .i64 0,.int .i64 0,.int .i64 0]) 5 Tryz.underlying23 hi0 hz0 hz1 .i64 .i64 _ 256 rfl rfl (by first | rfl | omega) (by rw [hz2]; omega) (by unfold maxLen; omega) (Nat.le_refl _) ?_; intro w0 hown0 hg0)
        go_meet
        exact ⟨_,_,rfl,Lib.hid hown0,Lib.hid ((Below.refl _ _).grown hg0 (Nat.le_refl _) (fun k hk => by cases hk))⟩
      · have h3' : decide ((256 : Int) < (N : Int)) = false := by simpa using h3
        go_wp2_with (at_make; refine wpList_make_own _ rfl _ _ 23 rfl w1.heap.size 37 i0 (.agg #[.int .i64 0,.int .i64 0,.int .i64 0,.int .i64 0,.int .i64 0]) 5 Tryz.underlying23 hi0 hz0 hz1 .i64 .i64 _ N rfl rfl (by first | rfl | omega) (by rw [hz2]; omega) (by unfold maxLen; omega) (Nat.le_refl _) ?_; intro w0 hown0 hg0)
        go_meet
        exact ⟨_,_,rfl,Lib.hid hown0,Lib.hid ((Below.refl _ _).grown hg0 (Nat.le_refl _) (fun k hk => by cases hk))⟩
  case rest =>
    obtain ⟨g0,cp0,rfl,HO0,HB0⟩ := hcut
    go_wp2_with fail
    go_step3
    go_wp2_with fail
    go_loopw [7,8,9,10,11,12,13,14,15,16,17,18,19,20] (fun s7 s8 _ _ _ _ _ _ _ _ _ _ _ _ wr => ∃ (g cp k : Nat) (rest : ByteArray) (acc : List Ins),s8 = .string rest ∧ rest.size ≤ s.size ∧ s7 = .slice (some ⟨g,0,none⟩) k cp ∧ k ≤ 256 ∧ Hid (acc.length = k) ∧ Hid (wr.ownsRow w1.heap.size 37 5 (.slice (some ⟨g,0,none⟩) k cp) k (pCells acc)) ∧ Hid (R = parseL V.fp N rest.data.toList acc) ∧ Hid (Below w1.heap.size w1 wr)) (fun _ s8 _ _ _ _ _ _ _ _ _ _ _ _ _ => match s8 with | .string x => x.size | _ => 0)
    case atStart => exact ⟨g0,cp0,0,s,[],rfl,Nat.le_refl _,rfl,by omega,Lib.hid rfl,HO0,hR,HB0⟩
    case round =>
      clear HO0 HB0 hR hCnt
      obtain ⟨g,cp,k,rest,acc,rfl,hrs,rfl,hk,HK,HO,HR,HB⟩ := hrel
      by_cases h0 : rest.size = 0
      · have er : rest.data.toList = [] := List.length_eq_zero_iff.1 (by rw [szl]; exact h0)
        have d0 : (rest.toList == []) = true := by rw [Lib.toList_data,er]; rfl
        have HE : Hid (R = (acc,0,0,0)) := Lib.hid (HR.out.trans (prs_nil er))
        have HP : Hid (PrsPost R w1 (.returned (.tuple #[.slice (some ⟨g,0,none⟩) k cp,.int .i64 0,.int .i64 0,.int .i64 0])) wr) := Lib.hid (by
          rw [HE.out]
          exact ⟨_,rfl,HB.out,.inl ⟨rfl,g,cp,by rw [HK.out],by simp only; rw [HK.out]; exact HO.out⟩⟩)
        clear HR HE HO er
        go_wp2_with fail
        try rw [Exit.noGoto_ret]
        refine bodyPost_ret (results_tmp4 rfl _ _ _) rfl ?_
        exact HP.out
      · have hne : Hid (rest.data.toList ≠ []) := Lib.hid (fun h => h0 (by rw [← szl,h]; rfl))
        have d0 : (rest.toList == []) = false := by
          rw [Lib.toList_data]
          cases e : rest.data.toList with
          | nil => exact absurd e hne.out
          | cons a b => rfl
        by_cases hk2 : k = 256
        · have d1 : (256 : Int) < (k : Int) + 1 := by omega
          have HE : Hid (R = ([],3,(k : Int) + 1,0)) := Lib.hid (by rw [HR.out,prs_many hne.out (by rw [HK.out]; omega),HK.out])
          have HP : Hid (PrsPost R w1 (.returned (.tuple #[.slice none 0 0,.int .i64 3,.int .i64 ((k : Int) + 1),.int .i64 0])) wr) := Lib.hid (by
            rw [HE.out]
            exact ⟨_,rfl,HB.out,.inr ⟨by simp,rfl,rfl⟩⟩)
          clear HR HE HO hk2
          go_wp2_with fail
          try rw [Exit.noGoto_ret]
          refine bodyPost_ret (results_tmp4 rfl _ _ _) rfl ?_
          exact HP.out
        · have hk3 : k < 256 := by omega
          have d1 : decide ((256 : Int) < (k : Int) + 1) = false := by simp; omega
          have d1' : (k : Int) + 1 ≤ 256 := by omega
          have hC1 := cut_one rest (by omega) 10 wr
          clear hk2
          go_wp2_with fail
          refine hC1.mono ?_
          rintro e w2 ⟨hP,n1,rfl⟩
          obtain ⟨P,Rr,fd,rfl,hPl,hPz,hfd⟩ := hP
          have HPl := Lib.hid hPl
          have Hfd := Lib.hid hfd
          have hC2 := cut_one P (by omega) 32 (wr.drewN n1)
          clear hPl hfd hC1
          go_wp2_with fail
          refine hC2.mono ?_
          rintro e w2 ⟨hF,n2,rfl⟩
          obtain ⟨F,Rf,ff,rfl,hFl,hFz,_⟩ := hF
          have HFl : Hid (F.data.toList = upB 32 (upB 10 rest.data.toList)) := Lib.hid (by rw [hFl,HPl.out])
          clear hFl hC2
          obtain ⟨wz,hwz⟩ : ∃ W,Hid (W = (wr.drewN n1).drewN n2) := ⟨_,rfl⟩
          have HOz : Hid (wz.ownsRow w1.heap.size 37 5 (.slice (some ⟨g,0,none⟩) k cp) k (pCells acc)) := Lib.hid (by rw [hwz.out]; exact HO.out)
          have HBz : Hid (Below w1.heap.size w1 wz) := Lib.hid (by rw [hwz.out]; exact below_drewN (below_drewN HB.out n1) n2)
          rw [← hwz.out]
          have Az : V.A wz := V.kept HA.out HBz.out
          obtain ⟨tw,fw,hheap⟩ := V.wds Az
          have HAz := Lib.hid Az
          clear HO HB hwz Az
          go_wp2_with (refine wpList_load_row rfl 51 (.global 0) rfl 0 rfl tw wordsA fw _ hheap Tryz.underlying51 rfl (by kernel_rfl) ?_)
          go_loopw [7,8,16,17,18,19,20,48] (fun s7 s8 _ _ _ _ _ s48 wq => ∃ j : Nat,s7 = .slice (some ⟨g,0,none⟩) k cp ∧ s8 = .string rest ∧ s48 = .int .i64 j ∧ j ≤ 34 ∧ Hid (∀ q,q < j → wordsL.getD q [] ≠ F.data.toList) ∧ wq = wz) (fun _ _ _ _ _ _ _ s48 _ => 34 - (intOf s48).toNat)
          case atStart => exact ⟨0,rfl,rfl,rfl,by omega,Lib.hid (fun q hq => absurd hq (Nat.not_lt_zero q)),rfl⟩
          case round =>
            obtain ⟨j,rfl,rfl,rfl,hj,HN,rfl⟩ := hrel
            by_cases hlt : j < 34
            · have hlt' : (j : Int) < 34 := by omega
              have hix := word_ix j hlt
              obtain ⟨Wj,hWj⟩ : ∃ S : ByteArray,Hid (S = ⟨(wordsL.getD j []).toArray⟩) := ⟨_,rfl⟩
              rw [← hWj.out] at hix
              have eW : Wj.toList = wordsL.getD j [] := by rw [hWj.out,Lib.toList_data,ba_list]
              by_cases he : wordsL.getD j [] = F.data.toList
              · have d2 : (Wj.toList == F.toList) = true := by rw [eW,Lib.toList_data,he]; simp
                have hop := op_found hlt (he.trans HFl.out)
                have hwl : (wordL (j : Int)).length ≤ P.size := by
                  have h1 : wordL (j : Int) = F.data.toList := by unfold wordL; rw [Int.toNat_natCast]; exact he
                  rw [h1,szl]
                  exact hFz
                have hRL := readLine_any V j hlt P (by omega) hwl (N : Int) wr HAz.out
                have hln : lnL V.fp P.data.toList (N : Int) = rdLine V.fp P.data.toList (N : Int) (fieldsN (j : Int)) ⟨j,0,0,0,0⟩ (wordL (j : Int)).length := ln_some (by rw [HPl.out]; exact hop)
                rw [← hln,HPl.out] at hRL
                obtain ⟨R1,hR1⟩ : ∃ r,Hid (lnL V.fp (upB 10 rest.data.toList) (N : Int) = r) := ⟨_,rfl⟩
                rw [hR1.out] at hRL
                obtain ⟨x,E,q⟩ := R1
                clear hln hop hwl HN he eW hWj hheap
                go_wp2_with fail
                refine hRL.mono ?_
                rintro e w3 ⟨rfl,b3⟩
                have HO3 := Lib.hid (owns_below HOz.out b3)
                have HB3 := Lib.hid (HBz.out.trans (b3.mono HBz.out.size))
                have hs3 := HB3.out.size
                clear hRL b3 HOz HBz
                simp only [insV]
                by_cases hE : E = 0
                · subst hE
                  cases fd with
                  | false =>
                    have hfs : P.size = rest.size := by
                      rcases Hfd.out with h | h
                      · simp at h
                      · exact h.2.1
                    have HE : Hid (R = ([],5,(k : Int) + 1,(P.size : Int))) := Lib.hid (by
                      have e1 : (upB 10 rest.data.toList).length = P.size := by rw [← HPl.out,szl]
                      rw [HR.out,prs_short hne.out (by rw [HK.out]; omega) hR1.out (by rw [e1,szl]; exact hfs),HK.out,e1])
                    have HP : Hid (∀ o,PrsPost R w1 (.returned (.tuple #[.slice none 0 0,.int .i64 5,.int .i64 ((k : Int) + 1),.int .i64 (P.size : Int)])) (w3.alloc o)) := Lib.hid (fun o => by
                      rw [HE.out]
                      exact ⟨_,rfl,HB3.out.alloc hs3 o,.inr ⟨by simp,rfl,rfl⟩⟩)
                    clear HR HE HO3 hR1 Hfd hfs
                    go_wp2_with fail
                    try rw [Exit.noGoto_ret]
                    refine bodyPost_ret (results_tmp4 rfl _ _ _) rfl ?_
                    exact HP.out _
                  | true =>
                    have hfs : P.size < rest.size ∧ Rr.data.toList = rest.data.toList.drop ((upB 10 rest.data.toList).length + 1) ∧ Rr.size + P.size + 1 = rest.size := by
                      rcases Hfd.out with h | h
                      · exact h.2
                      · simp at h
                    obtain ⟨hf1,hf2,hf3⟩ := hfs
                    have HR' : Hid (R = parseL V.fp N Rr.data.toList (acc ++ [x])) := Lib.hid (by
                      have e1 : (upB 10 rest.data.toList).length = P.size := by rw [← HPl.out,szl]
                      rw [HR.out,prs_go hne.out (by rw [HK.out]; omega) hR1.out (by rw [e1,szl]; omega),← hf2])
                    have HK' : Hid ((acc ++ [x]).length = k + 1) := Lib.hid (by rw [List.length_append,HK.out]; rfl)
                    have hOa := fun o => HO3.out.alloc (o := o)
                    clear HR hR1 Hfd hf2
                    go_wp2_with (at_builtin; (refine wpList_append_lies _ rfl _ _ 23 rfl w1.heap.size 37 i0 (.agg #[.int .i64 0,.int .i64 0,.int .i64 0,.int .i64 0,.int .i64 0]) 5 40 Tryz.underlying23 hi0 hz0 hz1 hz2 rfl (by decide) (.slice (some ⟨g,0,none⟩) k cp) _ _ rfl ((HO3.out.alloc _).alloc _) ⟨_,0,none⟩ 1 1 (insCells x) rfl rfl (cells_new [.int .i64 x.op,.int .i64 x.a,.int .i64 x.b,.int .i64 x.c,.int .i64 x.imm] _ (by simp)) (by simp [insCells,Value.oneCell']) (by decide) (by unfold maxLen; omega) (by omega) (by simp; omega) _ rfl ?_); intro g3 cap3 w4 hown4 hgrow4 hlies4 hlt4)
                    have hb4 : Below w1.heap.size w1 w4 := ((HB3.out.alloc hs3 _).alloc (by simp; omega) _).grown hgrow4 (by simp; omega) (fun b hb => (HO3.out.lt b hb).1)
                    rw [← pCells_snoc] at hown4
                    have HO4 := Lib.hid hown4
                    have HB4 := Lib.hid hb4
                    clear hown4 hb4 hgrow4 hlies4 hlt4 HO3 HB3 hOa
                    first
                      | exact ⟨⟨g3,cap3,k + 1,Rr,acc ++ [x],rfl,by omega,rfl,by omega,HK',HO4,HR',HB4⟩,by omega⟩
                      | (go_roundw
                         case rel => exact ⟨g3,cap3,k + 1,Rr,acc ++ [x],rfl,by omega,rfl,by omega,HK',HO4,HR',HB4⟩
                         case measure => simp; omega)
                · have dE : (E == 0) = false := by simpa using hE
                  have HE : Hid (R = ([],E,(k : Int) + 1,q)) := Lib.hid (by rw [HR.out,prs_wrong hne.out (by rw [HK.out]; omega) hR1.out hE,HK.out])
                  have HP : Hid (∀ o,PrsPost R w1 (.returned (.tuple #[.slice none 0 0,.int .i64 E,.int .i64 ((k : Int) + 1),.int .i64 q])) (w3.alloc o)) := Lib.hid (fun o => by
                    rw [HE.out]
                    exact ⟨_,rfl,HB3.out.alloc hs3 o,.inr ⟨hE,rfl,rfl⟩⟩)
                  clear HR HE HO3 hR1 hE
                  go_wp2_with fail
                  try rw [Exit.noGoto_ret]
                  refine bodyPost_ret (results_tmp4 rfl _ _ _) rfl ?_
                  exact HP.out _
              · have d2 : (Wj.toList == F.toList) = false := by rw [eW,Lib.toList_data]; simpa using he
                have HN' : Hid (∀ q,q < j + 1 → wordsL.getD q [] ≠ F.data.toList) := Lib.hid (fun q hq => by
                  by_cases e : q = j
                  · rw [e]; exact he
                  · exact HN.out q (by omega))
                clear HN he eW hWj
                go_wp2_with fail
                first
                  | exact ⟨⟨j + 1,by first | rfl | trivial,by first | rfl | trivial,by go_num,by omega,HN',by trivial⟩,by simp [intOf]; omega⟩
                  | (go_roundw
                     case rel => exact ⟨j + 1,by first | rfl | trivial,by first | rfl | trivial,by go_num,by omega,HN',by trivial⟩
                     case measure => simp [intOf]; omega)
            · have hltd : decide ((j : Int) < 34) = false := by simp; omega
              have hop := op_none (t := upB 32 (upB 10 rest.data.toList)) (fun q hq => by rw [← HFl.out]; exact HN.out q (by omega))
              have HE : Hid (R = ([],9,(k : Int) + 1,0)) := Lib.hid (by rw [HR.out,prs_word hne.out (by rw [HK.out]; omega) hop,HK.out])
              have HP : Hid (PrsPost R w1 (.returned (.tuple #[.slice none 0 0,.int .i64 9,.int .i64 ((k : Int) + 1),.int .i64 0])) wr) := Lib.hid (by
                rw [HE.out]
                exact ⟨_,rfl,HBz.out,.inr ⟨by simp,rfl,rfl⟩⟩)
              clear HR HE HOz hop HN
              go_wp2_with fail
              try rw [Exit.noGoto_ret]
              refine bodyPost_ret (results_tmp4 rfl _ _ _) rfl ?_
              exact HP.out
end Go.Proofs.YtalaajniammggaaGreatDoor

/- Some answers that the document fixes. -/
namespace Go.Proofs.YtalaajniammggaaGreatDoor
open Go.RowKit
def awL : List Ins := [⟨1,0,0,0,5⟩,⟨23,0,0,0,0⟩,⟨24,1,2,3,0⟩,⟨0,0,0,0,0⟩]
def awT : List UInt8 := [115,101,116,32,114,48,32,53,10,105,102,32,114,48,32,48,10,115,101,110,100,32,114,49,32,114,50,32,114,51,10,101,120,105,116,10]
def awU : List UInt8 := [101,120,105,116,10,115,101,116,32,114,48,10]
theorem aw_may : (mayL awL 8).1 = 0 := by decide
theorem itoa_lit (r : Nat) (h : r < 10) : Lib.itoa (r : Int) = [UInt8.ofNat (48 + r)] := by
 unfold Lib.itoa
 rw [if_neg (by omega),Int.toNat_natCast,Lib.decDigits_one h]
section
variable (fp : Int → List UInt8)
theorem aw_text : textL fp awL = awT := by
 have e0 : regL 0 = [114,48] := regL_nat 0 (by omega)
 have e1 : regL 1 = [114,49] := regL_nat 1 (by omega)
 have e2 : regL 2 = [114,50] := regL_nat 2 (by omega)
 have e3 : regL 3 = [114,51] := regL_nat 3 (by omega)
 have i5 : immL fp 1 5 = [53] := by unfold immL; rw [if_neg (by decide)]; exact itoa_lit 5 (by omega)
 have i0 : immL fp 23 0 = [48] := by unfold immL; rw [if_neg (by decide)]; exact itoa_lit 0 (by omega)
 have f1 : fieldsN 1 = [0,3] := by decide
 have f2 : fieldsN 23 = [0,3] := by decide
 have f3 : fieldsN 24 = [0,1,2] := by decide
 have f4 : fieldsN 0 = [] := by decide
 simp [textL,awL,lineL,restL,f1,f2,f3,f4,fldL,e0,e1,e2,e3,i5,i0,wordL,wordsL,awT]
theorem aw_ends : endsN awU = 2 := by decide
theorem aw_read : readP fp awU = ([],5,2,6) := by
 unfold readP
 rw [aw_ends]
 have u1 : upB 10 awU = [101,120,105,116] := by decide
 have o1 : opOf (upB 32 [101,120,105,116]) = some 0 := by decide +kernel
 have l1 : lnL fp [101,120,105,116] (2 : Nat) = (⟨0,0,0,0,0⟩,0,0) := by
  unfold lnL
  rw [o1]
  have f4 : fieldsN ((0 : Nat) : Int) = [] := by decide
  have w4 : (wordL ((0 : Nat) : Int)).length = 4 := by decide
  simp only
  rw [f4,w4,rdLine,if_neg (by decide)]
  rfl
 have d1 : awU.drop ((upB 10 awU).length + 1) = [115,101,116,32,114,48,10] := by decide
 rw [prs_go (by decide) (by decide) (by rw [u1]; exact l1) (by decide),d1]
 have u2 : upB 10 [115,101,116,32,114,48,10] = [115,101,116,32,114,48] := by decide
 have o2 : opOf (upB 32 [115,101,116,32,114,48]) = some 1 := by decide +kernel
 have l2 : lnL fp [115,101,116,32,114,48] (2 : Nat) = (ins0,5,6) := by
  unfold lnL
  rw [o2]
  have f4 : fieldsN ((1 : Nat) : Int) = [0,3] := by decide
  have w4 : (wordL ((1 : Nat) : Int)).length = 3 := by decide
  have t : upB 32 (([115,101,116,32,114,48] : List UInt8).drop (3 + 1)) = [114,48] := by decide
  have r : regOf [114,48] = some 0 := by
   have := regOf_yes (r := 0) (by decide) (by decide)
   rwa [show regL 0 = [114,48] from regL_nat 0 (by omega)] at this
  have rf : rdField fp (⟨((1 : Nat) : Int),0,0,0,0⟩ : Ins) 0 [114,48] ((2 : Nat) : Int) = (⟨1,0,0,0,0⟩,0) := by
   unfold rdField
   rw [if_pos (by decide),r]
   rfl
  simp only
  rw [f4,w4,rdLine,if_neg (by decide),t,rf,if_neg (by decide),rdLine,if_pos (by decide)]
  rfl
 rw [← u2] at l2
 rw [prs_wrong (by decide) (by decide) l2 (by decide)]
 rfl
end
theorem prs_ok {R : List Ins × Int × Int × Int} {w : World} {e : Ending} {w' : World} (h : PrsPost R w e w') (hE : R.2.1 = 0) : ∃ g cap,e = .returned (.tuple #[.slice (some ⟨g,0,none⟩) R.1.length cap,.int .i64 0,.int .i64 R.2.2.1,.int .i64 R.2.2.2]) ∧ Prg w' (some ⟨g,0,none⟩) R.1 ∧ Below w.heap.size w w' ∧ w'.ownsRow w.heap.size 37 5 (.slice (some ⟨g,0,none⟩) R.1.length cap) R.1.length (pCells R.1) := by
 obtain ⟨sl,rfl,hb,h⟩ := h
 rcases h with ⟨_,g,cap,rfl,ho⟩ | ⟨h,_⟩
 ·exact ⟨g,cap,by rw [hE],(prg_of_owns ho).1,hb,ho⟩
 ·exact absurd hE h
theorem prs_no {R : List Ins × Int × Int × Int} {w : World} {e : Ending} {w' : World} (h : PrsPost R w e w') (hE : R.2.1 ≠ 0) : e = .returned (.tuple #[.slice none 0 0,.int .i64 R.2.1,.int .i64 R.2.2.1,.int .i64 R.2.2.2]) ∧ Below w.heap.size w w' ∧ R.1 = [] := by
 obtain ⟨sl,rfl,hb,h⟩ := h
 rcases h with ⟨h,_⟩ | ⟨_,h1,rfl⟩
 ·exact absurd h hE
 ·exact ⟨rfl,hb,h1⟩
def awC : Array Value := #[.int .i64 1,.int .i64 0,.int .i64 0,.int .i64 0,.int .i64 5,.int .i64 23,.int .i64 0,.int .i64 0,.int .i64 0,.int .i64 0,.int .i64 24,.int .i64 1,.int .i64 2,.int .i64 3,.int .i64 0,.int .i64 0,.int .i64 0,.int .i64 0,.int .i64 0,.int .i64 0]
theorem aw_prg {W : World} {b : Nat} {t : TypeId} {fr : Nat × Nat} (h : W.heap[b]? = some (.cells awC t fr)) : Prg W (some ⟨b,0,none⟩) awL := by
 intro i hi
 refine ⟨b,0,rfl,?_⟩
 have hi' : i < 4 := hi
 rcases (show i = 0 ∨ i = 1 ∨ i = 2 ∨ i = 3 by omega) with rfl | rfl | rfl | rfl <;> (constructor <;> rw [Lib.cell_of_heap h] <;> rfl)
set_option maxRecDepth 100000 in
set_option maxHeartbeats 2000000 in
theorem awake_any (V : Env) (w : World) (A : V.A w) :
  Calls Tryz.prog 9 #[] w fun e w' => e = .returned (.bool true) ∧ Below w.heap.size w w' := by
 obtain ⟨W,hW⟩ : ∃ W,Hid (W = w.alloc (.cells awC 37)) := ⟨_,rfl⟩
 have BW : Below w.heap.size w W := by rw [hW.out]; exact (Below.refl _ w).alloc (Nat.le_refl _) _
 have PW : Prg W (some ⟨w.heap.size,0,none⟩) awL := aw_prg (t := 37) (fr := (0,0)) (by rw [hW.out]; exact heap_alloc_new w _)
 have h1 := print_prog V (some ⟨w.heap.size,0,none⟩) 4 awL (fun x hx => by
  simp only [awL,List.mem_cons,List.not_mem_nil,or_false] at hx
  rcases hx with rfl | rfl | rfl | rfl <;> (unfold InR; decide)) W PW (V.kept A BW)
 have eP : printA V.fp awL = (awT,0,0) := by unfold printA; rw [if_pos aw_may,aw_text]
 rw [eP] at h1
 have h2 := fun (W' : World) (h : Below w.heap.size w W') => parse_any V ⟨awT.toArray⟩ (by rw [ba_sz]; decide) W' (V.kept A h)
 have h3 := fun (W' : World) (h : Below w.heap.size w W') => parse_any V ⟨awU.toArray⟩ (by rw [ba_sz]; decide) W' (V.kept A h)
 have e2 : readP V.fp awT = (awL,0,0,0) := by
  rw [← aw_text V.fp]
  refine read_print V.F aw_may (fun x hx => ?_)
  simp only [awL,List.mem_cons,List.not_mem_nil,or_false] at hx
  rcases hx with rfl | rfl | rfl | rfl <;> (unfold InR; decide)
 rw [ba_list,e2] at h2
 rw [ba_list,aw_read] at h3
 have HPW := Lib.hid PW
 have z4 : awL.length = 4 := rfl
 rw [z4] at h1
 obtain ⟨S,hS⟩ : ∃ S : ByteArray,Hid (S = ⟨awT.toArray⟩) := ⟨_,rfl⟩
 simp only at h1
 rw [← hS.out] at h1
 have d1 : (S.toList == [115,101,116,32,114,48,32,53,10,105,102,32,114,48,32,48,10,115,101,110,100,32,114,49,32,114,50,32,114,51,10,101,120,105,116,10]) = true := by rw [hS.out,Lib.toList_data,ba_list]; rfl
 have h2 : ∀ (W' : World),Below w.heap.size w W' → Calls Tryz.prog 13 #[.string ⟨#[115,101,116,32,114,48,32,53,10,105,102,32,114,48,32,48,10,115,101,110,100,32,114,49,32,114,50,32,114,51,10,101,120,105,116,10]⟩] W' _ := h2
 have h3 : ∀ (W' : World),Below w.heap.size w W' → Calls Tryz.prog 13 #[.string ⟨#[101,120,105,116,10,115,101,116,32,114,48,10]⟩] W' _ := h3
 have hSame := fun (W' : World) (g c : Nat) (p1 : Prg W' (some ⟨g,0,none⟩) awL) (p2 : Prg W' (some ⟨w.heap.size,0,none⟩) awL) => same_yes (some ⟨g,0,none⟩) (some ⟨w.heap.size,0,none⟩) c 4 awL W' (by decide) p1 p2
 rw [z4] at hSame
 clear PW eP e2 hS
 go_enter Tryz.func9,Tryz.ntmps9
 go_wp2_with fail
 rw [show w.alloc (.cells #[.int .i64 1,.int .i64 0,.int .i64 0,.int .i64 0,.int .i64 5,.int .i64 23,.int .i64 0,.int .i64 0,.int .i64 0,.int .i64 0,.int .i64 24,.int .i64 1,.int .i64 2,.int .i64 3,.int .i64 0,.int .i64 0,.int .i64 0,.int .i64 0,.int .i64 0,.int .i64 0] 37) = W from hW.out.symm]
 refine h1.mono ?_
 rintro e w1 ⟨rfl,b1⟩
 have B1 : Below w.heap.size w w1 := BW.trans (b1.mono BW.size)
 have P1 := Lib.hid (HPW.out.kept b1)
 clear h1 hW HPW
 go_wp2_with fail
 refine (h2 _ B1).mono ?_
 intro e w2 hq
 obtain ⟨g,cap,rfl,P2,b2,_⟩ := prs_ok hq rfl
 have B2 : Below w.heap.size w w2 := B1.trans (b2.mono B1.size)
 have P1 := Lib.hid (P1.out.kept b2)
 have P2 := Lib.hid P2
 clear hq h2 b1
 simp only [z4]
 go_wp2_with fail
 refine (h3 _ B2).mono ?_
 intro e w3 hq
 obtain ⟨rfl,b3,_⟩ := prs_no hq (by decide)
 have B3 : Below w.heap.size w w3 := B2.trans (b3.mono B2.size)
 have hSm := hSame w3 g cap (P2.out.kept b3) (P1.out.kept b3)
 clear hq h3 b2 b3 hSame P1 P2
 go_wp2_with fail
 refine hSm.mono ?_
 rintro e w4 ⟨rfl,n4,rfl⟩
 go_wp2_with fail
 go_ret
 exact ⟨rfl,below_drewN B3 n4⟩
end Go.Proofs.YtalaajniammggaaGreatDoor

/- AsmNames, AsmReturns: the walks. -/
namespace Go.Proofs.YtalaajniammggaaGreatDoor
open Go.RowKit
theorem Prg.take {w : World} {a : Option Addr} {l : List Ins} (h : Prg w a l) (m : Nat) : Prg w a (l.take m) := fun i hi => by
 have hi2 : i < l.length := by simp at hi; omega
 obtain ⟨b,off,e,hc⟩ := h i hi2
 refine ⟨b,off,e,?_⟩
 have : (l.take m).getD i default = l.getD i default := by
  rw [List.getD_eq_getElem?_getD,List.getD_eq_getElem?_getD,List.getElem?_take]
  simp at hi
  rw [if_pos (by omega)]
 rw [this]
 exact hc
end Go.Proofs.YtalaajniammggaaGreatDoor
