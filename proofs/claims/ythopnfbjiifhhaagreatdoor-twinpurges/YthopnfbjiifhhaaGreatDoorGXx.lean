/- The law's example of twins: awake, the walk. -/
import Derived.Test.YthopnfbjiifhhaaGreatDoorGXw
set_option maxHeartbeats 4000000
set_option maxRecDepth 100000
namespace Go.Proofs.YthopnfbjiifhhaaGreatDoor
open Go.RowKit Go.Proofs.Tryz
variable{W:World}{n:Nat}
theorem JE{ta:Option Addr}{tn tc:Nat}(h:W.heap[n+1+1+1+1+1+1+1]?=some (.cells (DA n ta tn tc) 40 (0,0))):W.cell? ⟨n+1+1+1+1+1+1+1,0,none⟩=some (.slice (some ⟨n,0,none⟩) 2 2)/\W.cell? ⟨n+1+1+1+1+1+1+1,1,none⟩=some (.slice (some ⟨n+1,0,none⟩) 2 2)/\W.cell? ⟨n+1+1+1+1+1+1+1,2,none⟩=some (.int .i64 1)/\W.cell? ⟨n+1+1+1+1+1+1+1,3,none⟩=some (.int .i64 1)/\W.cell? ⟨n+1+1+1+1+1+1+1,4,none⟩=some (.int .i64 0)/\W.cell? ⟨n+1+1+1+1+1+1+1,5,none⟩=some (.int .i64 1)/\W.cell? ⟨n+1+1+1+1+1+1+1,6,none⟩=some (.slice (some ⟨n+1+1+1,0,none⟩) 2 2)/\W.cell? ⟨n+1+1+1+1+1+1+1,7,none⟩=some (.slice (some ⟨n,0,none⟩) 2 2)/\W.cell? ⟨n+1+1+1+1+1+1+1,8,none⟩=some (.slice (some ⟨n+1,0,none⟩) 2 2)/\W.cell? ⟨n+1+1+1+1+1+1+1,9,none⟩=some (.int .i64 1)/\W.cell? ⟨n+1+1+1+1+1+1+1,10,none⟩=some (.int .i64 1)/\W.cell? ⟨n+1+1+1+1+1+1+1,11,none⟩=some (.int .i64 0)/\W.cell? ⟨n+1+1+1+1+1+1+1,12,none⟩=some (.int .i64 1)/\W.cell? ⟨n+1+1+1+1+1+1+1,13,none⟩=some (.slice (some ⟨n+1+1+1,0,none⟩) 2 2)/\W.cell? ⟨n+1+1+1+1+1+1+1,14,none⟩=some (.slice (some ⟨n+1+1+1+1+1,0,none⟩) 3 3)/\W.cell? ⟨n+1+1+1+1+1+1+1,15,none⟩=some (.slice ta tn tc)/\W.cell? ⟨n+1+1+1+1+1+1+1,16,none⟩=some (.int .u64 0):=by
 have x:∀j u,(DA n ta tn tc)[j]?=some u->W.cell? ⟨n+1+1+1+1+1+1+1,j,none⟩=some u:=fun j u hj=>by rw [aaa _ _ _ _ _ _ h];exact hj
 exact ⟨x 0 _ rfl,x 1 _ rfl,x 2 _ rfl,x 3 _ rfl,x 4 _ rfl,x 5 _ rfl,x 6 _ rfl,x 7 _ rfl,x 8 _ rfl,x 9 _ rfl,x 10 _ rfl,x 11 _ rfl,x 12 _ rfl,x 13 _ rfl,x 14 _ rfl,x 15 _ rfl,x 16 _ rfl⟩
theorem ex_vc(h:W.heap[n+1+1+1+1]?=some (.cells (Mu n) 26 (0,0))):W.cell? ⟨n+1+1+1+1,0,none⟩=some (.slice (some ⟨n,0,none⟩) 2 2)/\W.cell? ⟨n+1+1+1+1,1,none⟩=some (.slice (some ⟨n+1,0,none⟩) 2 2)/\W.cell? ⟨n+1+1+1+1,2,none⟩=some (.int .i64 1)/\W.cell? ⟨n+1+1+1+1,3,none⟩=some (.int .i64 1)/\W.cell? ⟨n+1+1+1+1,4,none⟩=some (.int .i64 0)/\W.cell? ⟨n+1+1+1+1,5,none⟩=some (.int .i64 1)/\W.cell? ⟨n+1+1+1+1,6,none⟩=some (.slice (some ⟨n+1+1+1,0,none⟩) 2 2):=by
 have x:∀j u,(Mu n)[j]?=some u->W.cell? ⟨n+1+1+1+1,j,none⟩=some u:=fun j u hj=>by rw [aaa _ _ _ _ _ _ h];exact hj
 exact ⟨x 0 _ rfl,x 1 _ rfl,x 2 _ rfl,x 3 _ rfl,x 4 _ rfl,x 5 _ rfl,x 6 _ rfl⟩
theorem taw_any(w:World)(hF:bR w)(hL:eQ w):Calls prog 4 #[] w fun e w'=>e=.returned (.bool true)/\Below w.heap.size w w':=by
 obtain ⟨n,hn⟩:=Haa w.heap.size;obtain ⟨h0,h1⟩:=exZ_ok w n hn.out hF hL;obtain ⟨d0,d1,d2,d3,d4,d5,d6,d7,d8,d9,d10,d11,d12,d13,d14,d15,d16⟩:=JE h1;have hy:=ex_yes h0;have H0:=hd h0;have H1:=hd h1;have HM:Hid (∀W,Std w n W->Calls prog 8 #[.agg #[.slice (some ⟨n,0,none⟩) 2 2,.slice (some ⟨n+1,0,none⟩) 2 2,.int .i64 1,.int .i64 1,.int .i64 0,.int .i64 1,.slice (some ⟨n+1+1+1,0,none⟩) 2 2,.slice (some ⟨n,0,none⟩) 2 2,.slice (some ⟨n+1,0,none⟩) 2 2,.int .i64 1,.int .i64 1,.int .i64 0,.int .i64 1,.slice (some ⟨n+1+1+1,0,none⟩) 2 2,.slice (some ⟨n+1+1+1+1+1,0,none⟩) 3 3,.slice (some ⟨n+1+1+1+1+1+1,0,none⟩) 3 3,.int .u64 0]] W fun e w'=>e=.returned (.bool true)/\Below W.heap.size W w'):=hd (fun W h=>VO h);have HN:Hid (∀W b,Std w n W->Rd W (some ⟨b,0,none⟩) (bB [(1,3,0)])->Calls prog 7 #[.agg #[.slice (some ⟨n,0,none⟩) 2 2,.slice (some ⟨n+1,0,none⟩) 2 2,.int .i64 1,.int .i64 1,.int .i64 0,.int .i64 1,.slice (some ⟨n+1+1+1,0,none⟩) 2 2,.slice (some ⟨n,0,none⟩) 2 2,.slice (some ⟨n+1,0,none⟩) 2 2,.int .i64 1,.int .i64 1,.int .i64 0,.int .i64 1,.slice (some ⟨n+1+1+1,0,none⟩) 2 2,.slice (some ⟨n+1+1+1+1+1,0,none⟩) 3 3,.slice (some ⟨b,0,none⟩) 1 1,.int .u64 0]] W fun e w'=>e=.returned (.tuple #[.bool false,.int .i64 0])/\Below W.heap.size W w'):=hd (fun W b h hr=>ex_no h b hr);have HP:Hid (∀W,Std w n W->Calls prog 6 #[.agg #[.slice (some ⟨n,0,none⟩) 2 2,.slice (some ⟨n+1,0,none⟩) 2 2,.int .i64 1,.int .i64 1,.int .i64 0,.int .i64 1,.slice (some ⟨n+1+1+1,0,none⟩) 2 2],.slice (some ⟨n+1+1+1+1+1,0,none⟩) 3 3,.int .u64 0] W fun e w'=>∃a c,e=.returned (.slice a 2 c)/\Below W.heap.size W w'):=hd (fun W h=>ex_pur h);clear h0 h1 hF hL;change Calls prog _ #[.agg #[.slice (some ⟨n,0,none⟩) 2 2,.slice (some ⟨n+1,0,none⟩) 2 2,.int .i64 1,.int .i64 1,.int .i64 0,.int .i64 1,.slice (some ⟨n+1+1+1,0,none⟩) 2 2,.slice (some ⟨n,0,none⟩) 2 2,.slice (some ⟨n+1,0,none⟩) 2 2,.int .i64 1,.int .i64 1,.int .i64 0,.int .i64 1,.slice (some ⟨n+1+1+1,0,none⟩) 2 2,.slice (some ⟨n+1+1+1+1+1,0,none⟩) 3 3,.slice (some ⟨n+1+1+1+1+1+1,0,none⟩) 3 3,.int .u64 0]] _ _ at hy;go_enter func4,ntmps4;go_upto_region 3 with fail;rw [hn.out];change Code.wp _ _ _ _ (DB w n);obtain ⟨W0,aD⟩:=Haa (DB w n);rw [aD.out]at hy H0 H1 d0 d1 d2 d3 d4 d5 d6 d7 d8 d9 d10 d11 d12 d13 d14 d15 d16⊢;clear aD
 as_aux_lemma=>
  go_upto_region 4 with(go_at_call 7;(with_reducible refine hy.mono ?_);rintro e w1 ⟨rfl,hb⟩;have S1:=hd (H0.out.below hb);have X1:=hd ((hb.block _ (aab.1 H1.out).1).trans H1.out);clear hy d0 d1 d2 d3 d4 d5 d6 d7 d8 d9 d10 d11 d12 d13 d14 d15 d16 H0 H1 hb)
  as_aux_lemma=>
   have hm:=HM.out w1 S1.out
   obtain ⟨d0,d1,d2,d3,d4,d5,d6,d7,d8,d9,d10,d11,d12,d13,d14,d15,d16⟩:=JE X1.out;clear HM;go_upto_region 5 with(go_at_call 8;(with_reducible refine hm.mono ?_);rintro e w2 ⟨rfl,hb⟩;have S2:=hd (S1.out.below hb);have X2:=hd ((hb.block _ (aab.1 X1.out).1).trans X1.out);clear hm d0 d1 d2 d3 d4 d5 d6 d7 d8 d9 d10 d11 d12 d13 d14 d15 d16 S1 X1 hb)
   as_aux_lemma=>
    have kf:∀i,(w2.alloc (.cells #[.int .i64 1,.int .i64 3,.int .i64 0] 32)).frozen? ⟨n+1+1+1+1+1+1+1,i,none⟩=false:=fun i=>by
     have:=(aA w2 (.cells #[.int .i64 1,.int .i64 3,.int .i64 0] 32)).block _ (aab.1 X2.out).1
     simp [World.frozen?,this.trans X2.out]
    have Z6:(w2.alloc (.cells #[.int .i64 1,.int .i64 3,.int .i64 0] 32)).cell? ⟨n+1+1+1+1+1+1+1,15,none⟩=some (.slice (some ⟨n+1+1+1+1+1+1,0,none⟩) 3 3):=by
     have:=(aA w2 (.cells #[.int .i64 1,.int .i64 3,.int .i64 0] 32)).block _ (aab.1 X2.out).1;rw [aaa _ _ _ _ _ _ (this.trans X2.out)];rfl
    go_upto_region 6 with fail;have S3:=hd ((S2.out.below (aA w2 (.cells #[.int .i64 1,.int .i64 3,.int .i64 0] 32))).mod (dP _ (n+1+1+1+1+1+1+1) 15 (.slice (some ⟨w2.heap.size,0,none⟩) 1 1)))
    have X3:Hid (((w2.alloc (.cells #[.int .i64 1,.int .i64 3,.int .i64 0] 32)).setCell ⟨n+1+1+1+1+1+1+1,15,none⟩ (.slice (some ⟨w2.heap.size,0,none⟩) 1 1)).heap[n+1+1+1+1+1+1+1]?=some (.cells (DA n (some ⟨w2.heap.size,0,none⟩) 1 1) 40 (0,0))):=hd (by
     rw [aU (((aA w2 (.cells #[.int .i64 1,.int .i64 3,.int .i64 0] 32)).block _ (aab.1 X2.out).1).trans X2.out) _]
     rfl)
    have R3:Hid (Rd ((w2.alloc (.cells #[.int .i64 1,.int .i64 3,.int .i64 0] 32)).setCell ⟨n+1+1+1+1+1+1+1,15,none⟩ (.slice (some ⟨w2.heap.size,0,none⟩) 1 1)) (some ⟨w2.heap.size,0,none⟩) (bB [(1,3,0)])):=hd (by
     refine BX (T:=32) (((dP _ (n+1+1+1+1+1+1+1) 15 _).block w2.heap.size (by simp) ?_).trans (aae w2 _)) rfl;have:=(aab.1 X2.out).1
     omega)
    obtain ⟨V,hV⟩:=Haa ((w2.alloc (.cells #[.int .i64 1,.int .i64 3,.int .i64 0] 32)).setCell ⟨n+1+1+1+1+1+1+1,15,none⟩ (.slice (some ⟨w2.heap.size,0,none⟩) 1 1));rw [hV.out]at S3 X3 R3⊢;clear hV S2 X2 kf Z6;obtain ⟨b,hb⟩:=Haa w2.heap.size;rw [hb.out]at X3 R3⊢;clear hb
    as_aux_lemma=>
     have hm:=HN.out V b S3.out R3.out
     obtain ⟨d0,d1,d2,d3,d4,d5,d6,d7,d8,d9,d10,d11,d12,d13,d14,d15,d16⟩:=JE X3.out;go_upto_region 7 with(go_at_call 7;(with_reducible refine hm.mono ?_);rintro e w3 ⟨rfl,hb⟩;have S4:=hd (S3.out.below hb);have X4:=hd ((hb.block _ (aab.1 X3.out).1).trans X3.out);clear hm d0 d1 d2 d3 d4 d5 d6 d7 d8 d9 d10 d11 d12 d13 d14 d15 d16 S3 X3 hb HN R3)
     as_aux_lemma=>
      have hp:=HP.out w3 S4.out
      obtain ⟨f0,f1,f2,f3,f4,f5,f6⟩:=ex_vc S4.out.vc;obtain ⟨-,-,-,-,-,-,-,-,-,-,-,-,-,-,d14,-⟩:=JE X4.out;go_wp2_with (go_at_call 6;(with_reducible refine hp.mono ?_);rintro e w4 ⟨a,c,rfl,hb⟩;have HZ:Hid (Below w.heap.size w w4):=hd (by rw [hn.out];exact (S4.out.below hb).bl);clear hp hb S4 X4 f0 f1 f2 f3 f4 f5 f6 d14);go_ret;exact ⟨rfl,HZ.out⟩
end Go.Proofs.YthopnfbjiifhhaaGreatDoor
