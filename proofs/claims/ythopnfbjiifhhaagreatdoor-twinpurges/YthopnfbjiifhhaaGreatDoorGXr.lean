/- Do two runs look alike: the walk over what May and together tell. -/
import Derived.Test.YthopnfbjiifhhaaGreatDoorGXq
set_option maxHeartbeats 4000000
set_option maxRecDepth 100000
namespace Go.Proofs.YthopnfbjiifhhaaGreatDoor
open Go.RowKit Go.Proofs.Tryz
theorem TX(v0 v1 v2 v3 v4 v5 v6 v7 v8 v9 v10 v11 v12 v13 v14 v15 v16:Value)(w:World)(r:Bool)(z:Int)(hM:∀W,Below w.heap.size w W->Calls prog 8 #[.agg #[v0,v1,v2,v3,v4,v5,v6,v7,v8,v9,v10,v11,v12,v13,v14,v15,v16]] W fun e w'=>e=.returned (.bool r)/\Below W.heap.size W w')
 (hT:r=true->∀W,Below w.heap.size w W->Calls prog 11 #[.agg #[v0,v1,v2,v3,v4,v5,v6,v7,v8,v9,v10,v11,v12,v13,v14,v15,v16]] W fun e w'=>e=.returned (.tuple #[.bool true,.int .i64 z])/\Below W.heap.size W w'):
 Calls prog 7 #[.agg #[v0,v1,v2,v3,v4,v5,v6,v7,v8,v9,v10,v11,v12,v13,v14,v15,v16]] w fun e w'=>e=.returned (.tuple #[.bool r,.int .i64 (if r then z else 0)])/\Below w.heap.size w w':=by
 have ai:=aA w (.cells #[v0,v1,v2,v3,v4,v5,v6,v7,v8,v9,v10,v11,v12,v13,v14,v15,v16] 40);have hx:=aae w (.cells #[v0,v1,v2,v3,v4,v5,v6,v7,v8,v9,v10,v11,v12,v13,v14,v15,v16] 40);obtain ⟨w1,aR⟩:=Haa (w.alloc (.cells #[v0,v1,v2,v3,v4,v5,v6,v7,v8,v9,v10,v11,v12,v13,v14,v15,v16] 40));rw [aR.out]at ai hx;have bu:w1.heap.size=w.heap.size+1:=by rw [<-aR.out];simp
 have HE:Hid (∀W,Below w1.heap.size w1 W->Below w.heap.size w W):=hd (fun W h=>ai.trans (h.mono ai.size));obtain ⟨bx,aT⟩:=Haa w.heap.size;rw [aT.out]at hx bu
 have HV:Hid (∀W,Below w1.heap.size w1 W->W.cell? ⟨bx,0,none⟩=some v0/\W.cell? ⟨bx,1,none⟩=some v1/\W.cell? ⟨bx,2,none⟩=some v2/\W.cell? ⟨bx,3,none⟩=some v3/\W.cell? ⟨bx,4,none⟩=some v4/\W.cell? ⟨bx,5,none⟩=some v5/\W.cell? ⟨bx,6,none⟩=some v6/\W.cell? ⟨bx,7,none⟩=some v7/\W.cell? ⟨bx,8,none⟩=some v8/\W.cell? ⟨bx,9,none⟩=some v9/\W.cell? ⟨bx,10,none⟩=some v10/\W.cell? ⟨bx,11,none⟩=some v11/\W.cell? ⟨bx,12,none⟩=some v12/\W.cell? ⟨bx,13,none⟩=some v13/\W.cell? ⟨bx,14,none⟩=some v14/\W.cell? ⟨bx,15,none⟩=some v15/\W.cell? ⟨bx,16,none⟩=some v16):=hd (fun W hb=>by
  have h:∀j u,#[v0,v1,v2,v3,v4,v5,v6,v7,v8,v9,v10,v11,v12,v13,v14,v15,v16][j]?=some u->W.cell? ⟨bx,j,none⟩=some u:=fun j u hj=>by
   rw [aaa _ _ _ _ _ _ ((hb.block bx (by omega)).trans hx)];exact hj
  exact ⟨h 0 _ rfl,h 1 _ rfl,h 2 _ rfl,h 3 _ rfl,h 4 _ rfl,h 5 _ rfl,h 6 _ rfl,h 7 _ rfl,h 8 _ rfl,h 9 _ rfl,h 10 _ rfl,h 11 _ rfl,h 12 _ rfl,h 13 _ rfl,h 14 _ rfl,h 15 _ rfl,h 16 _ rfl⟩)
 have hm:=hM w1 ai;have HT:Hid (r=true->∀W,Below w1.heap.size w1 W->Calls prog 11 #[.agg #[v0,v1,v2,v3,v4,v5,v6,v7,v8,v9,v10,v11,v12,v13,v14,v15,v16]] W fun e w'=>e=.returned (.tuple #[.bool true,.int .i64 z])/\Below w.heap.size w w'):=hd (fun e0 W hb=>(hT e0 W (HE.out W hb)).mono fun e w' he=>⟨he.1,(HE.out W hb).trans (he.2.mono (HE.out W hb).size)⟩);obtain ⟨d0,d1,d2,d3,d4,d5,d6,d7,d8,d9,d10,d11,d12,d13,d14,d15,d16⟩:=HV.out w1 (aak _ _);clear hM hT hx bu ai
 cases r
 ·clear HT;go_enter func7,ntmps7;go_upto_region 1 with fail;rw [aR.out,aT.out];go_wp2_with (go_at_call 8;(with_reducible refine hm.mono ?_);rintro e w2 ⟨rfl,hb⟩;have HZ:=hd (HE.out _ hb);clear hm d0 d1 d2 d3 d4 d5 d6 d7 d8 d9 d10 d11 d12 d13 d14 d15 d16 HE);go_ret2;exact ⟨rfl,HZ.out⟩
 ·go_enter func7,ntmps7;go_upto_region 1 with fail;rw [aR.out,aT.out];go_upto_region 3 with(go_at_call 8;(with_reducible refine hm.mono ?_);rintro e w2 ⟨rfl,hb⟩;have ht:=HT.out rfl _ hb;clear hm d0 d1 d2 d3 d4 d5 d6 d7 d8 d9 d10 d11 d12 d13 d14 d15 d16;obtain ⟨d0,d1,d2,d3,d4,d5,d6,d7,d8,d9,d10,d11,d12,d13,d14,d15,d16⟩:=HV.out _ hb;clear HT HV hb HE);go_wp2_with (go_at_call 11;(with_reducible refine ht.mono ?_);rintro e w3 ⟨rfl,hb⟩;replace hb:=hd hb;clear ht d0 d1 d2 d3 d4 d5 d6 d7 d8 d9 d10 d11 d12 d13 d14 d15 d16);go_ret2;exact ⟨rfl,hb.out⟩
end Go.Proofs.YthopnfbjiifhhaaGreatDoor
