/- The law's example of twins, on the model. -/
import Derived.Test.YthopnfbjiifhhaaGreatDoorGXr
namespace Go.Proofs.YthopnfbjiifhhaaGreatDoor
open Go.RowKit
def eC:ak:=⟨[0,1],[0,1],1,1,0,1,[⟨0,[⟨22,0,0,0,0⟩]⟩,⟨1,[]⟩]⟩
def cH:List cK:=[(1,2,0),(2,1,5),(1,1,0)]
def dg:List cK:=[(1,2,0),(3,1,0),(1,1,0)]
theorem Ki:(jt eC).1=0:=by kernel_rfl
theorem e_dec:qI (nE eC)=(eC,0,0):=by kernel_rfl
theorem e_byte:rZ (nE eC):=fun i=>by
 have aY:(nE eC).all (fun y=>decide (y<256))=true:=by kernel_rfl
 rw [aac]
 cases h:(nE eC)[i]? with
 |none=>exact Nat.zero_lt_succ _
 |some y=>simpa using aa5.1 aY y (aba h)
theorem WD:∀p,p<eC.procs.length->eZ.yH (cd eC p):=fun p hp=>by
 have:p=0\/p=1:=by
  have:eC.procs.length=2:=rfl;omega
 rcases this with rfl|rfl
 ·exact .inr rfl
 ·exact .inl rfl
theorem WE:OT eC (firstM eC):=SF Ki (by decide) WD
theorem e_tk:(aP eC cH 4).T=3:=by kernel_rfl
def KG:Int:=eG eC (iZ eC 2 (firstM eC)) 1
theorem VM:KG≠0:=by
 exact of_decide_eq_false (by kernel_rfl:decide (KG=0)=false)
theorem exS_ok0:pW eC (bX eC (aP eC cH 0)).m (bX eC (aP eC cH 0)).T (bX eC (aP eC cH 0)).rest (bX eC (aP eC cH 0)).due:=by
 have e1:(bX eC (aP eC cH 0)).rest=[(1,2,0),(2,1,5),(1,1,0)]:=by kernel_rfl
 have e2:(bX eC (aP eC cH 0)).due=0:=by kernel_rfl
 have e3:(bX eC (aP eC cH 0)).T=0:=by kernel_rfl
 rw [e1,e2,e3];exact fun _=>⟨.inl ⟨rfl,by decide,by decide⟩,fun h=>absurd h (by decide)⟩
theorem exS_go0:t_ eC (aP eC cH 0):=by
 have e1:(aP eC cH 0).T=0:=by kernel_rfl
 have e2:(aP eC cH 0).m.tick=0:=by kernel_rfl
 have e3:(aP eC cH 0).due=0:=by kernel_rfl
 exact ⟨by omega,by omega,by omega,by omega,by omega,exS_ok0⟩
theorem exS_ok1:pW eC (bX eC (aP eC cH 1)).m (bX eC (aP eC cH 1)).T (bX eC (aP eC cH 1)).rest (bX eC (aP eC cH 1)).due:=by
 have e1:(bX eC (aP eC cH 1)).rest=[(2,1,5),(1,1,0)]:=by kernel_rfl
 have e2:(bX eC (aP eC cH 1)).due=1:=by kernel_rfl
 rw [e1,e2];exact fun h=>absurd h (by decide)
theorem exS_go1:t_ eC (aP eC cH 1):=by
 have e1:(aP eC cH 1).T=0:=by kernel_rfl
 have e2:(aP eC cH 1).m.tick=0:=by kernel_rfl
 have e3:(aP eC cH 1).due=2:=by kernel_rfl
 exact ⟨by omega,by omega,by omega,by omega,by omega,exS_ok1⟩
theorem exS_ok2:pW eC (bX eC (aP eC cH 2)).m (bX eC (aP eC cH 2)).T (bX eC (aP eC cH 2)).rest (bX eC (aP eC cH 2)).due:=by
 have e1:(bX eC (aP eC cH 2)).rest=[(2,1,5),(1,1,0)]:=by kernel_rfl
 have e2:(bX eC (aP eC cH 2)).due=0:=by kernel_rfl
 have e3:(bX eC (aP eC cH 2)).T=2:=by kernel_rfl
 have e4:eG eC (bX eC (aP eC cH 2)).m 1=KG:=by kernel_rfl
 rw [e1,e2,e3];refine fun _=>⟨.inr ⟨.inl rfl, ?_⟩,fun _=>⟨.inl ⟨rfl,by decide,by decide⟩,trivial⟩⟩
 show eG eC (bX eC (aP eC cH 2)).m 1≠0;rw [e4];exact VM
theorem exS_go2:t_ eC (aP eC cH 2):=by
 have e1:(aP eC cH 2).T=1:=by kernel_rfl
 have e2:(aP eC cH 2).m.tick=1:=by kernel_rfl
 have e3:(aP eC cH 2).due=1:=by kernel_rfl
 exact ⟨by omega,by omega,by omega,by omega,by omega,exS_ok2⟩
theorem exS_ok3:pW eC (bX eC (aP eC cH 3)).m (bX eC (aP eC cH 3)).T (bX eC (aP eC cH 3)).rest (bX eC (aP eC cH 3)).due:=by
 have e1:(bX eC (aP eC cH 3)).rest=[]:=by kernel_rfl
 rw [e1];exact trivial
theorem exS_go3:t_ eC (aP eC cH 3):=by
 have e1:(aP eC cH 3).T=2:=by kernel_rfl
 have e2:(aP eC cH 3).m.tick=2:=by kernel_rfl
 have e3:(aP eC cH 3).due=1:=by kernel_rfl
 exact ⟨by omega,by omega,by omega,by omega,by omega,exS_ok3⟩
theorem exS_goes(i:Nat)(hi:i<4):t_ eC (aP eC cH i):=by
 obtain rfl|rfl|rfl|rfl:i=0\/i=1\/i=2\/i=3:=by omega
 ·exact exS_go0
 ·exact exS_go1
 ·exact exS_go2
 ·exact exS_go3
theorem exT_ok0:pW eC (bX eC (aP eC dg 0)).m (bX eC (aP eC dg 0)).T (bX eC (aP eC dg 0)).rest (bX eC (aP eC dg 0)).due:=by
 have e1:(bX eC (aP eC dg 0)).rest=[(1,2,0),(3,1,0),(1,1,0)]:=by kernel_rfl
 have e2:(bX eC (aP eC dg 0)).due=0:=by kernel_rfl
 have e3:(bX eC (aP eC dg 0)).T=0:=by kernel_rfl
 rw [e1,e2,e3];exact fun _=>⟨.inl ⟨rfl,by decide,by decide⟩,fun h=>absurd h (by decide)⟩
theorem exT_go0:t_ eC (aP eC dg 0):=by
 have e1:(aP eC dg 0).T=0:=by kernel_rfl
 have e2:(aP eC dg 0).m.tick=0:=by kernel_rfl
 have e3:(aP eC dg 0).due=0:=by kernel_rfl
 exact ⟨by omega,by omega,by omega,by omega,by omega,exT_ok0⟩
theorem exT_ok1:pW eC (bX eC (aP eC dg 1)).m (bX eC (aP eC dg 1)).T (bX eC (aP eC dg 1)).rest (bX eC (aP eC dg 1)).due:=by
 have e1:(bX eC (aP eC dg 1)).rest=[(3,1,0),(1,1,0)]:=by kernel_rfl
 have e2:(bX eC (aP eC dg 1)).due=1:=by kernel_rfl
 rw [e1,e2];exact fun h=>absurd h (by decide)
theorem exT_go1:t_ eC (aP eC dg 1):=by
 have e1:(aP eC dg 1).T=0:=by kernel_rfl
 have e2:(aP eC dg 1).m.tick=0:=by kernel_rfl
 have e3:(aP eC dg 1).due=2:=by kernel_rfl
 exact ⟨by omega,by omega,by omega,by omega,by omega,exT_ok1⟩
theorem exT_ok2:pW eC (bX eC (aP eC dg 2)).m (bX eC (aP eC dg 2)).T (bX eC (aP eC dg 2)).rest (bX eC (aP eC dg 2)).due:=by
 have e1:(bX eC (aP eC dg 2)).rest=[(3,1,0),(1,1,0)]:=by kernel_rfl
 have e2:(bX eC (aP eC dg 2)).due=0:=by kernel_rfl
 have e3:(bX eC (aP eC dg 2)).T=2:=by kernel_rfl
 have e4:eG eC (bX eC (aP eC dg 2)).m 1=KG:=by kernel_rfl
 rw [e1,e2,e3];refine fun _=>⟨.inr ⟨.inr rfl, ?_⟩,fun _=>⟨.inl ⟨rfl,by decide,by decide⟩,trivial⟩⟩
 show eG eC (bX eC (aP eC dg 2)).m 1≠0;rw [e4];exact VM
theorem exT_go2:t_ eC (aP eC dg 2):=by
 have e1:(aP eC dg 2).T=1:=by kernel_rfl
 have e2:(aP eC dg 2).m.tick=1:=by kernel_rfl
 have e3:(aP eC dg 2).due=1:=by kernel_rfl
 exact ⟨by omega,by omega,by omega,by omega,by omega,exT_ok2⟩
theorem exT_ok3:pW eC (bX eC (aP eC dg 3)).m (bX eC (aP eC dg 3)).T (bX eC (aP eC dg 3)).rest (bX eC (aP eC dg 3)).due:=by
 have e1:(bX eC (aP eC dg 3)).rest=[]:=by kernel_rfl
 rw [e1];exact trivial
theorem exT_go3:t_ eC (aP eC dg 3):=by
 have e1:(aP eC dg 3).T=2:=by kernel_rfl
 have e2:(aP eC dg 3).m.tick=2:=by kernel_rfl
 have e3:(aP eC dg 3).due=1:=by kernel_rfl
 exact ⟨by omega,by omega,by omega,by omega,by omega,exT_ok3⟩
theorem exT_goes(i:Nat)(hi:i<4):t_ eC (aP eC dg i):=by
 obtain rfl|rfl|rfl|rfl:i=0\/i=1\/i=2\/i=3:=by omega
 ·exact exT_go0
 ·exact exT_go1
 ·exact exT_go2
 ·exact exT_go3
theorem ym(i:Nat)(hi:i<=4):(aP eC cH i).m=iZ eC (i-1) (firstM eC)/\(aP eC dg i).m=iZ eC (i-1) (firstM eC)/\(aP eC dg i).T=(aP eC cH i).T/\(aP eC dg i).O=(aP eC cH i).O/\yl (aP eC cH i).m=true/\wu (aP eC cH i)=decide (i=4)/\wu (aP eC dg i)=decide (i=4):=by
 obtain rfl|rfl|rfl|rfl|rfl:i=0\/i=1\/i=2\/i=3\/i=4:=by omega
 all_goals exact ⟨by kernel_rfl,by kernel_rfl,by kernel_rfl,by kernel_rfl,by kernel_rfl,by kernel_rfl,by kernel_rfl⟩
theorem e_alk:Alk eC cH dg 4 where
 tg:=fun i hi=>by
  rw [(ym i hi).1]
  exact aG.iZ WE.cfg _ WE.tg
 few:=fun i hi=>(ym i hi).2.2.2.2.1
 eM:=fun i hi=>(ym i hi).2.1.trans (ym i hi).1.symm
 eT:=fun i hi=>(ym i hi).2.2.1
 eO:=fun i hi=>(ym i hi).2.2.2.1
 no:=fun i hi=>by
  rw [(ym i (by omega)).2.2.2.2.2.1,aaC (by omega)]
  rfl
 yes:=⟨(ym 4 (by omega)).2.2.2.2.2.1,(ym 4 (by omega)).2.2.2.2.2.2⟩
 gS:=exS_goes
 gT:=exT_goes
def Mu(n:Nat):Array Value:=#[.slice (some ⟨n,0,none⟩) 2 2,.slice (some ⟨n+1,0,none⟩) 2 2,.int .i64 1,.int .i64 1,.int .i64 0,.int .i64 1,.slice (some ⟨n+1+1+1,0,none⟩) 2 2]
def I9(n:Nat):Loc:=⟨some ⟨n,0,none⟩,2,some ⟨n+1,0,none⟩,2,some ⟨n+1+1+1,0,none⟩,2,[⟨⟨0,[⟨22,0,0,0,0⟩]⟩,some ⟨n+1+1,0,none⟩,1⟩,⟨⟨1,[]⟩,none,0⟩]⟩
def DA(n:Nat)(ta:Option Addr)(tn tc:Nat):Array Value:=#[.slice (some ⟨n,0,none⟩) 2 2,.slice (some ⟨n+1,0,none⟩) 2 2,.int .i64 1,.int .i64 1,.int .i64 0,.int .i64 1,.slice (some ⟨n+1+1+1,0,none⟩) 2 2,.slice (some ⟨n,0,none⟩) 2 2,.slice (some ⟨n+1,0,none⟩) 2 2,.int .i64 1,.int .i64 1,.int .i64 0,.int .i64 1,.slice (some ⟨n+1+1+1,0,none⟩) 2 2,.slice (some ⟨n+1+1+1+1+1,0,none⟩) 3 3,.slice ta tn tc,.int .u64 0]
def DB(w:World)(n:Nat):World:=(((((((w.alloc (.cells #[.int .u64 0,.int .u64 1] 28)).alloc (.cells #[.int .i64 0,.int .i64 1] 3)).alloc (.cells #[.int .i64 22,.int .i64 0,.int .i64 0,.int .i64 0,.int .i64 0] 35)).alloc (.cells #[.int .i64 0,.slice (some ⟨n+1+1,0,none⟩) 1 1,.int .i64 1,.slice none 0 0] 38)).alloc (.cells #[.slice (some ⟨n,0,none⟩) 2 2,.slice (some ⟨n+1,0,none⟩) 2 2,.int .i64 1,.int .i64 1,.int .i64 0,.int .i64 1,.slice (some ⟨n+1+1+1,0,none⟩) 2 2] 26)).alloc (.cells #[.int .i64 1,.int .i64 2,.int .i64 0,.int .i64 2,.int .i64 1,.int .i64 5,.int .i64 1,.int .i64 1,.int .i64 0] 32)).alloc (.cells #[.int .i64 1,.int .i64 2,.int .i64 0,.int .i64 3,.int .i64 1,.int .i64 0,.int .i64 1,.int .i64 1,.int .i64 0] 32)).alloc (.cells #[.slice (some ⟨n,0,none⟩) 2 2,.slice (some ⟨n+1,0,none⟩) 2 2,.int .i64 1,.int .i64 1,.int .i64 0,.int .i64 1,.slice (some ⟨n+1+1+1,0,none⟩) 2 2,.slice (some ⟨n,0,none⟩) 2 2,.slice (some ⟨n+1,0,none⟩) 2 2,.int .i64 1,.int .i64 1,.int .i64 0,.int .i64 1,.slice (some ⟨n+1+1+1,0,none⟩) 2 2,.slice (some ⟨n+1+1+1+1+1,0,none⟩) 3 3,.slice (some ⟨n+1+1+1+1+1+1,0,none⟩) 3 3,.int .u64 0] 40)
structure Std(w:World)(n:Nat)(W:World):Prop where
 cf:fD W eC (I9 n)
 fl:bR W
 li:eQ W
 rs:Rd W (some ⟨n+1+1+1+1+1,0,none⟩) (bB cH)
 rt:Rd W (some ⟨n+1+1+1+1+1+1,0,none⟩) (bB dg)
 vc:W.heap[n+1+1+1+1]?=some (.cells (Mu n) 26 (0,0))
 bl:Below n w W
 sz:n+8<=W.heap.size
 gf:1<n
 gl:0<n
variable{k n:Nat}{w W W':World}
theorem zY{b:Nat}(h:ae (some ⟨b,0,none⟩)=some k):k=b:=by cases h;rfl
theorem VN(h:sS (I9 n) k):k<n+4:=by
 rcases h with h|h|h|⟨x,hx,h⟩
 ·have:=zY h;omega
 ·have:=zY h;omega
 ·have:=zY h;omega
 ·rcases aa0.1 hx with rfl|hx
  ·have:=zY h;omega
  ·rcases aaL.1 hx with rfl
   cases h
theorem Std.mod(h:Std w n W)(hm:Mod (fun k=>k=n+1+1+1+1+1+1+1) W W'):Std w n W':=by
 have hs:=hm.size;have h8:=h.sz;have hgf:=h.gf;have gK:=h.gl;refine ⟨h.cf.mod hm (fun k hk e=>by have:=VN hk;omega),bR.mod h.fl hm (by omega),eQ.mod h.li hm (by omega),h.rs.mod (fun k hk _ e=>by have:=zY hk;omega) hm,h.rt.mod (fun k hk _ e=>by have:=zY hk;omega) hm,(hm.block _ (by omega) (by omega)).trans h.vc, ?_,by omega,h.gf,h.gl⟩;exact h.bl.trans (hm.below (by omega) (fun k _ e=>by omega))
theorem Std.below(h:Std w n W)(hb:Below W.heap.size W W'):Std w n W':=h.mod (Mod.aS _ hb)
theorem exZ_ok(w:World)(n:Nat)(hn:w.heap.size=n)(hF:bR w)(hL:eQ w):Std w n (DB w n)/\(DB w n).heap[n+1+1+1+1+1+1+1]?=some (.cells (DA n (some ⟨n+1+1+1+1+1+1,0,none⟩) 3 3) 40 (0,0)):=by
 obtain ⟨a0,s0⟩:=zQ hn #[.int .u64 0,.int .u64 1] 28;obtain ⟨a1,s1⟩:=zQ s0 #[.int .i64 0,.int .i64 1] 3;obtain ⟨a2,s2⟩:=zQ s1 #[.int .i64 22,.int .i64 0,.int .i64 0,.int .i64 0,.int .i64 0] 35;obtain ⟨a3,s3⟩:=zQ s2 #[.int .i64 0,.slice (some ⟨n+1+1,0,none⟩) 1 1,.int .i64 1,.slice none 0 0] 38;obtain ⟨a4,s4⟩:=zQ s3 #[.slice (some ⟨n,0,none⟩) 2 2,.slice (some ⟨n+1,0,none⟩) 2 2,.int .i64 1,.int .i64 1,.int .i64 0,.int .i64 1,.slice (some ⟨n+1+1+1,0,none⟩) 2 2] 26;obtain ⟨a5,s5⟩:=zQ s4 #[.int .i64 1,.int .i64 2,.int .i64 0,.int .i64 2,.int .i64 1,.int .i64 5,.int .i64 1,.int .i64 1,.int .i64 0] 32;obtain ⟨a6,s6⟩:=zQ s5 #[.int .i64 1,.int .i64 2,.int .i64 0,.int .i64 3,.int .i64 1,.int .i64 0,.int .i64 1,.int .i64 1,.int .i64 0] 32;obtain ⟨a7,s7⟩:=zQ s6 #[.slice (some ⟨n,0,none⟩) 2 2,.slice (some ⟨n+1,0,none⟩) 2 2,.int .i64 1,.int .i64 1,.int .i64 0,.int .i64 1,.slice (some ⟨n+1+1+1,0,none⟩) 2 2,.slice (some ⟨n,0,none⟩) 2 2,.slice (some ⟨n+1,0,none⟩) 2 2,.int .i64 1,.int .i64 1,.int .i64 0,.int .i64 1,.slice (some ⟨n+1+1+1,0,none⟩) 2 2,.slice (some ⟨n+1+1+1+1+1,0,none⟩) 3 3,.slice (some ⟨n+1+1+1+1+1+1,0,none⟩) 3 3,.int .u64 0] 40;have hb:Below n w (DB w n):=by
  subst hn;exact (((((((aA w _).alloc (by omega) _).alloc (by omega) _).alloc (by omega) _).alloc (by omega) _).alloc (by omega) _).alloc (by omega) _).alloc (by omega) _
 refine ⟨⟨⟨?_, ?_, ?_, ?_,rfl⟩, ?_, ?_,BX (jc (jc a5)) rfl,BX (jc a6) rfl,(jc (jc (jc a4))),hb, ?_, ?_, ?_⟩,a7⟩
 ·exact BX (jc (jc (jc (jc (jc (jc (jc a0))))))) rfl
 ·exact BX (jc (jc (jc (jc (jc (jc a1)))))) rfl
 ·exact BX (jc (jc (jc (jc a3)))) rfl
 ·intro m hm;rcases aa0.1 hm with rfl|hm
  ·exact BX (jc (jc (jc (jc (jc a2))))) rfl
  ·rcases aaL.1 hm with rfl;intro j u hj;simp [jK]at hj
 ·exact bR.mod hF (Mod.aS (fun _=>False) (by rw [hn];exact hb)) (fun h=>h)
 ·exact eQ.mod hL (Mod.aS (fun _=>False) (by rw [hn];exact hb)) (fun h=>h)
 ·show n+8<=(DB w n).heap.size;unfold DB;rw [s7];omega
 ·rw [<-hn];exact aaj w _ (hF 0 (by decide))
 ·rw [<-hn];exact aaj w _ (hL 0 (by decide))
theorem J4:∀x∈eC.labels,x<18446744073709551616:=by decide
theorem VO(h:Std w n W):Calls Tryz.prog 8 #[.agg (DA n (some ⟨n+1+1+1+1+1+1,0,none⟩) 3 3)] W fun e w'=>e=.returned (.bool true)/\Below W.heap.size W w':=
 TW eC (I9 n) _ _ 3 3 cH dg 0 (by decide) W h.cf h.fl h.li h.rs h.rt (by decide) (by decide) Ki (by decide) (by decide) (by decide) J4 (by decide) true (.inl ⟨rfl,by kernel_rfl⟩)
theorem ex_yes(h:Std w n W):Calls Tryz.prog 7 #[.agg (DA n (some ⟨n+1+1+1+1+1+1,0,none⟩) 3 3)] W fun e w'=>e=.returned (.tuple #[.bool true,.int .i64 3])/\Below W.heap.size W w':=by
 refine TX _ _ _ _ _ _ _ _ _ _ _ _ _ _ _ _ _ W true 3 (fun V hb=>VO (h.below hb)) (fun _ V hb=> ?_);have k:=h.below hb;have h8:=k.sz;have ht:=together_any eC (I9 n) (some ⟨n+1+1+1+1+1,0,none⟩) (some ⟨n+1+1+1+1+1+1,0,none⟩) 3 3 cH dg 4 0 (by decide) V k.cf k.fl k.li k.rs k.rt (by decide) (by decide) (fun x hx=>by have:=VN hx;omega) (fun x hx=>by have:=zY hx;omega) (fun x hx=>by have:=zY hx;omega) Ki e_byte e_dec J4 WD e_alk;rw [e_tk]at ht;exact ht
theorem ex_no(h:Std w n W)(b:Nat)(hr:Rd W (some ⟨b,0,none⟩) (bB [(1,3,0)])):Calls Tryz.prog 7 #[.agg (DA n (some ⟨b,0,none⟩) 1 1)] W fun e w'=>e=.returned (.tuple #[.bool false,.int .i64 0])/\Below W.heap.size W w':=by
 refine TX _ _ _ _ _ _ _ _ _ _ _ _ _ _ _ _ _ W false 0 (fun V hb=> ?_) (fun e=>by cases e);have k:=h.below hb;exact TW eC (I9 n) _ _ 3 1 cH [(1,3,0)] 0 (by decide) V k.cf k.fl k.li k.rs (hr.below hb) (by decide) (by decide) Ki (by decide) (by decide) (by decide) J4 (by decide) false (.inr ⟨rfl,by decide⟩)
theorem ex_pur(h:Std w n W):Calls Tryz.prog 6 #[.agg (Mu n),.slice (some ⟨n+1+1+1+1+1,0,none⟩) 3 3,.int .u64 0] W fun e w'=>∃a c,e=.returned (.slice a 2 c)/\Below W.heap.size W w':=
 (Jr (Gv h.cf (by decide) (by decide) J4) 0 (by decide) _ 3 cH h.rs (by decide)).mono fun e w' he=>by
  obtain ⟨a,c,e1,-,e3⟩:=he
  rw [show(dG (qD eC) 0 cH).length=2 by kernel_rfl]at e1;exact ⟨a,c,e1,e3⟩
end Go.Proofs.YthopnfbjiifhhaaGreatDoor
