/- AsmKeeps, as the row asks it. -/
import Derived.Test.YtalaajniammggaaGreatDoorTie
import Derived.Test.YtalaajniammggaaGreatDoorCards
import Derived.Test.YtalaajniammggaaGreatDoorChecked
import Derived.Test.YtalaajniammggaaGreatDoorXAi
import Derived.Test.YtalaajniammggaaGreatDoorXRf
import Derived.Test.YtalaajniammggaaGreatDoorXKa
import Derived.Lay
import Derived.ProofKit
import Derived.LaidMore
import Derived.OpenShut
import Derived.SizedLaws
import Derived.Stop.Joined
import Derived.SevenTiedAt
namespace Go.Proofs.YtalaajniammggaaGreatDoor
open Go.ChangeShapes Go.WideShapes Go.ChangeAt Go.RowKit
open Go.ChangeMaps (open_string shut_string)
set_option maxRecDepth 100000 in
theorem asmKeeps_lifted (os : Os) (started : os.Started) (H : Type) (enc : TypeId × Value → H) :
  ReturnsInHanded {} Tryz.checked os 8 .any (fun w args => (Rows.asmKeepsSpec.pre enc Tryz.prog Tryz.f8 [] false w args ∧ laidMetH Tryz.prog laidAll w) ∧ sizedMet enc Tryz.prog Tryz.f8 (OpenSpec.ofChange Rows.asmKeepsSpec) false w args)
   (Rows.asmKeepsSpec.post enc Tryz.prog Tryz.f8 false true false false) := by
 refine returnsInHanded_of_calls (C := Tryz.checked) own started (by kernel_rfl)
  (ChangeSpec.witness_shaped (enc := enc) (C := Tryz.checked) (os := os) (X := fun w _ => laidMetH Tryz.prog laidAll w) false (World.laidAll Tryz.prog os laidAll) #[.slice none 0 0,.string ⟨#[]⟩] 8 (World.laidAll_os _ _ _) (laid_shaped os _) (by kernel_rfl) (by kernel_rfl) (by kernel_rfl) (laid_met os _)) ?_
 intro w0 tape i _ hsh _ hok hpre _
 obtain ⟨_,_,_,fn',hfn',_,_,_,_,hval0⟩ := hok
 obtain rfl : Tryz.f8 = fn' := Option.some.inj (Tryz.func8.symm.trans hfn')
 obtain ⟨⟨⟨ds,gs,before,hw0,_⟩,hx⟩,hz⟩ := hpre
 have hW := DataW.Whole.of_heap (w' := w0.forCall tape i) (by rfl) hw0
 have hsz := hz.weights hw0
 have hL : laidMetH Tryz.prog laidAll (w0.forCall tape i) := hx.of_heap (by rfl)
 have T := env_of (laid_plain hL) hsh
 refine Calls.mono (R := fun e W' => ∃ v,e = .returned v ∧ Rows.asmKeepsSpec.post enc Tryz.prog Tryz.f8 false true false false (w0.forCall tape i) i.args v W') ?_ (fun e W' ⟨v,he,hp⟩ => by subst he; exact ChangeSpec.post_blind hp)
 obtain ⟨base,hbase⟩ : ∃ b,w0.heap.size = b := ⟨_,rfl⟩
 rw [hbase] at hval0
 generalize w0.forCall tape i = W at *
 generalize i.args = args at *
 have hval : ∀ (j : Nat) t v,Tryz.f8.params[j]? = some t → args[j]? = some v → Value.okWide Tryz.prog W .any base t v := hval0
 have hW' := hW
 obtain ⟨p,q,hA0,hV,rfl,hfz,hnd⟩ := hW
 have hA : DataW.TrodAll enc Tryz.prog W 0 (fun _ => true) true Tryz.f8.params.toList args.toList ds p := hA0
 rw [Tryz.params8] at hA hval
 obtain ⟨v0,vs0,d0,ds0,p0,q0,hargs,rfl,rfl,h0,r0⟩ := trodAll_cons hA
 obtain ⟨v1,vs1,d1,ds1,p1,q1,rfl,rfl,rfl,h1,r1⟩ := trodAll_cons r0
 obtain ⟨rfl,rfl,rfl⟩ := trodAll_nil r1
 obtain rfl : args = #[v0,v1] := by cases args; simp_all
 obtain ⟨rfl,rfl⟩ := trodVars_none hV
 obtain ⟨a0,n0,c0,rfl⟩ := okWide_slice Tryz.underlying23 (hval 0 23 v0 rfl rfl)
 obtain ⟨l0,rfl,x0,y0,u0,f0⟩ := view_prog h0
 obtain ⟨a1,rfl,rfl,rfl,w1⟩ := open_string Tryz.underlying9 (hval 1 9 v1 rfl rfl) h1
 have z1 : a1.size ≤ 140737488355328 := by
  have h := sized_string hsz (j := 1) (t := 9) (bytes := a1.data.toList) (by rw [Tryz.params8]; rfl) rfl
  rw [Array.length_toList] at h
  exact Nat.le_trans h (by decide)
 clear hA0 hval0
 simp only [List.append_nil] at hW'
 have hlt : ∀ x ∈ p0,x.block < W.heap.size := fun x hx => by simpa using hW'.lt x (by simpa using hx)
 refine (asmKeeps_walk env denv a0 c0 l0 x0 y0 f0 a1 z1 W u0 T).mono fun e W' ⟨he,hg⟩ => ?_
 subst he
 refine ⟨_,rfl,_,_,_,[],p0 ++ ([] ++ ([])),[],hW',?_,?_,rfl,hg.frame _,fun h => by cases h⟩
 ·exact trodAll_mk1 (shut_bool Tryz.underlying4 _)
 ·exact (trodAll_cons_mk (Below.trod laidOut (by kernel_rfl) (of_decide_eq_true (by kernel_rfl)) h0 hg (fun x hx => hlt x (by simp [hx]))) (trodAll_cons_mk (shut_string Tryz.underlying9 w1) trodAll_mk0))
end Go.Proofs.YtalaajniammggaaGreatDoor
