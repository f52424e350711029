/- The document's readImm. -/
import Derived.Test.YtalaajniammggaaGreatDoorXRc
import Derived.Test.YtalaajniammggaaGreatDoorXAe
namespace Go.Proofs.YtalaajniammggaaGreatDoor
open Go.RowKit
def ImmPost (fp : Int → List UInt8) (o : Int) (t : List UInt8) (n : Int) (e : Ending) : Prop :=
 ∃ v E : Int,e = .returned (.tuple #[.int .i64 v,.int .i64 E]) ∧ ((numOf fp o t = none ∧ E = 4) ∨ (∃ u,numOf fp o t = some u ∧ E = immE o u n 8 ∧ (E = 0 → v = u)))
section
variable {fp : Int → List UInt8}
theorem immL_near {o u : Int} (h : ¬ Far o u) : immL fp o u = Lib.itoa u := by unfold immL; rw [if_neg h]
theorem immL_far {o u : Int} (h : Far o u) : immL fp o u = 102 :: fp u := by unfold immL; rw [if_pos h]
theorem num_no {o : Int} {t : List UInt8} {e : Ending} {v : Int} (he : e = .returned (.tuple #[.int .i64 v,.int .i64 4])) (h : ∀ u,InR u → immL fp o u ≠ t) (n : Int) : ImmPost fp o t n e := ⟨v,4,he,.inl ⟨numOf_no h,rfl⟩⟩
theorem num_yes (F : FP fp) {o u : Int} {t : List UInt8} {n : Int} {v E : Int} (hu : InR u) (h : immL fp o u = t) (hE : E = immE o u n 8) (hv : E = 0 → v = u) : ImmPost fp o t n (.returned (.tuple #[.int .i64 v,.int .i64 E])) := ⟨v,E,rfl,.inr ⟨u,numOf_yes F hu h,hE,hv⟩⟩
end
theorem immE_22_ok {v n : Int} (h : 0 ≤ v ∧ v ≤ n) : immE 22 v n 8 = 0 := by
 unfold immE
 rw [if_pos (by decide)]
 rw [if_pos (by decide),if_pos h]
theorem immE_22_no {v n : Int} (h : ¬ (0 ≤ v ∧ v ≤ n)) : immE 22 v n 8 = 12 := by
 unfold immE
 rw [if_pos (by decide)]
 rw [if_pos (by decide),if_neg h]
set_option maxRecDepth 100000 in
set_option maxHeartbeats 1000000 in
theorem rimm_22 (V : Env) (s : ByteArray) (hs : s.size ≤ 140737488355328) (n : Int) (w : World) (A : V.A w) :
  Calls Tryz.prog 46 #[.int .i64 22,.string s,.int .i64 n] w fun e w' => ImmPost V.fp 22 s.data.toList n e ∧ Below w.heap.size w w' := by
 have hN := number_any' V s hs w A
 have nf : ∀ u,¬ Far 22 u := fun u h => absurd h.1 (by decide)
 go_enter Tryz.func46,Tryz.ntmps46
 go_wp2_with fail
 refine hN.mono ?_
 rintro e w1 ⟨⟨v,ok,rfl,h1,h2⟩,b1⟩
 clear hN
 cases ok with
 | false =>
  have H : Hid (ImmPost V.fp 22 s.data.toList n (.returned (.tuple #[.int .i64 0,.int .i64 4]))) := Lib.hid (num_no rfl (fun u hu he => by
   rw [immL_near (nf u)] at he
   exact absurd (h2 u hu he).1 (by simp)) n)
  clear h1 h2 nf
  go_wp2_with fail
  go_ret2
  exact ⟨H.out,b1⟩
 | true =>
  obtain ⟨hv,he⟩ := h1 rfl
  have hL : immL V.fp 22 v = s.data.toList := by rw [immL_near (nf v)]; exact he
  by_cases hlo : v < 0
  ·have H : Hid (ImmPost V.fp 22 s.data.toList n (.returned (.tuple #[.int .i64 0,.int .i64 12]))) := Lib.hid (num_yes V.F hv hL (immE_22_no (by omega)).symm (fun h => absurd h (by decide)))
   clear h1 h2 nf hL he
   go_wp2_with fail
   go_ret2
   exact ⟨H.out,b1⟩
  ·have d1 : decide (v < 0) = false := by simpa using hlo
   have d1' : 0 ≤ v := by omega
   by_cases hhi : n < v
   ·have H : Hid (ImmPost V.fp 22 s.data.toList n (.returned (.tuple #[.int .i64 0,.int .i64 12]))) := Lib.hid (num_yes V.F hv hL (immE_22_no (by omega)).symm (fun h => absurd h (by decide)))
    clear h1 h2 nf hL he
    go_wp2_with fail
    go_ret2
    exact ⟨H.out,b1⟩
   ·have d2 : decide (n < v) = false := by simpa using hhi
    have d2' : v ≤ n := by omega
    have H : Hid (ImmPost V.fp 22 s.data.toList n (.returned (.tuple #[.int .i64 v,.int .i64 0]))) := Lib.hid (num_yes V.F hv hL (immE_22_ok (by omega)).symm (fun _ => rfl))
    clear h1 h2 nf hL he
    go_wp2_with fail
    go_ret2
    exact ⟨H.out,b1⟩
theorem immE_23_ok {v n : Int} (h : 0 ≤ v ∧ v ≤ n) : immE 23 v n 8 = 0 := by
 unfold immE
 rw [if_pos (by decide)]
 rw [if_pos (by decide),if_pos h]
theorem immE_23_no {v n : Int} (h : ¬ (0 ≤ v ∧ v ≤ n)) : immE 23 v n 8 = 12 := by
 unfold immE
 rw [if_pos (by decide)]
 rw [if_pos (by decide),if_neg h]
set_option maxRecDepth 100000 in
set_option maxHeartbeats 1000000 in
theorem rimm_23 (V : Env) (s : ByteArray) (hs : s.size ≤ 140737488355328) (n : Int) (w : World) (A : V.A w) :
  Calls Tryz.prog 46 #[.int .i64 23,.string s,.int .i64 n] w fun e w' => ImmPost V.fp 23 s.data.toList n e ∧ Below w.heap.size w w' := by
 have hN := number_any' V s hs w A
 have nf : ∀ u,¬ Far 23 u := fun u h => absurd h.1 (by decide)
 go_enter Tryz.func46,Tryz.ntmps46
 go_wp2_with fail
 refine hN.mono ?_
 rintro e w1 ⟨⟨v,ok,rfl,h1,h2⟩,b1⟩
 clear hN
 cases ok with
 | false =>
  have H : Hid (ImmPost V.fp 23 s.data.toList n (.returned (.tuple #[.int .i64 0,.int .i64 4]))) := Lib.hid (num_no rfl (fun u hu he => by
   rw [immL_near (nf u)] at he
   exact absurd (h2 u hu he).1 (by simp)) n)
  clear h1 h2 nf
  go_wp2_with fail
  go_ret2
  exact ⟨H.out,b1⟩
 | true =>
  obtain ⟨hv,he⟩ := h1 rfl
  have hL : immL V.fp 23 v = s.data.toList := by rw [immL_near (nf v)]; exact he
  by_cases hlo : v < 0
  ·have H : Hid (ImmPost V.fp 23 s.data.toList n (.returned (.tuple #[.int .i64 0,.int .i64 12]))) := Lib.hid (num_yes V.F hv hL (immE_23_no (by omega)).symm (fun h => absurd h (by decide)))
   clear h1 h2 nf hL he
   go_wp2_with fail
   go_ret2
   exact ⟨H.out,b1⟩
  ·have d1 : decide (v < 0) = false := by simpa using hlo
   have d1' : 0 ≤ v := by omega
   by_cases hhi : n < v
   ·have H : Hid (ImmPost V.fp 23 s.data.toList n (.returned (.tuple #[.int .i64 0,.int .i64 12]))) := Lib.hid (num_yes V.F hv hL (immE_23_no (by omega)).symm (fun h => absurd h (by decide)))
    clear h1 h2 nf hL he
    go_wp2_with fail
    go_ret2
    exact ⟨H.out,b1⟩
   ·have d2 : decide (n < v) = false := by simpa using hhi
    have d2' : v ≤ n := by omega
    have H : Hid (ImmPost V.fp 23 s.data.toList n (.returned (.tuple #[.int .i64 v,.int .i64 0]))) := Lib.hid (num_yes V.F hv hL (immE_23_ok (by omega)).symm (fun _ => rfl))
    clear h1 h2 nf hL he
    go_wp2_with fail
    go_ret2
    exact ⟨H.out,b1⟩
theorem immE_29_ok {v n : Int} (h : 0 ≤ v ∧ v < 8) : immE 29 v n 8 = 0 := by
 unfold immE
 rw [if_pos (by decide)]
 rw [if_neg (by decide),if_pos (by decide),if_pos h]
theorem immE_29_no {v n : Int} (h : ¬ (0 ≤ v ∧ v < 8)) : immE 29 v n 8 = 13 := by
 unfold immE
 rw [if_pos (by decide)]
 rw [if_neg (by decide),if_pos (by decide),if_neg h]
set_option maxRecDepth 100000 in
set_option maxHeartbeats 1000000 in
theorem rimm_29 (V : Env) (s : ByteArray) (hs : s.size ≤ 140737488355328) (n : Int) (w : World) (A : V.A w) :
  Calls Tryz.prog 46 #[.int .i64 29,.string s,.int .i64 n] w fun e w' => ImmPost V.fp 29 s.data.toList n e ∧ Below w.heap.size w w' := by
 have hN := number_any' V s hs w A
 have nf : ∀ u,¬ Far 29 u := fun u h => absurd h.1 (by decide)
 go_enter Tryz.func46,Tryz.ntmps46
 go_wp2_with fail
 refine hN.mono ?_
 rintro e w1 ⟨⟨v,ok,rfl,h1,h2⟩,b1⟩
 clear hN
 cases ok with
 | false =>
  have H : Hid (ImmPost V.fp 29 s.data.toList n (.returned (.tuple #[.int .i64 0,.int .i64 4]))) := Lib.hid (num_no rfl (fun u hu he => by
   rw [immL_near (nf u)] at he
   exact absurd (h2 u hu he).1 (by simp)) n)
  clear h1 h2 nf
  go_wp2_with fail
  go_ret2
  exact ⟨H.out,b1⟩
 | true =>
  obtain ⟨hv,he⟩ := h1 rfl
  have hL : immL V.fp 29 v = s.data.toList := by rw [immL_near (nf v)]; exact he
  by_cases hlo : v < 0
  ·have H : Hid (ImmPost V.fp 29 s.data.toList n (.returned (.tuple #[.int .i64 0,.int .i64 13]))) := Lib.hid (num_yes V.F hv hL (immE_29_no (by omega)).symm (fun h => absurd h (by decide)))
   clear h1 h2 nf hL he
   go_wp2_with fail
   go_ret2
   exact ⟨H.out,b1⟩
  ·have d1 : decide (v < 0) = false := by simpa using hlo
   have d1' : 0 ≤ v := by omega
   by_cases hhi : 8 ≤ v
   ·have H : Hid (ImmPost V.fp 29 s.data.toList n (.returned (.tuple #[.int .i64 0,.int .i64 13]))) := Lib.hid (num_yes V.F hv hL (immE_29_no (by omega)).symm (fun h => absurd h (by decide)))
    clear h1 h2 nf hL he
    go_wp2_with fail
    go_ret2
    exact ⟨H.out,b1⟩
   ·have d2 : decide (8 ≤ v) = false := by simpa using hhi
    have d2' : v < 8 := by omega
    have H : Hid (ImmPost V.fp 29 s.data.toList n (.returned (.tuple #[.int .i64 v,.int .i64 0]))) := Lib.hid (num_yes V.F hv hL (immE_29_ok (by omega)).symm (fun _ => rfl))
    clear h1 h2 nf hL he
    go_wp2_with fail
    go_ret2
    exact ⟨H.out,b1⟩
theorem immE_30_ok {v n : Int} (h : 0 ≤ v ∧ v < 8) : immE 30 v n 8 = 0 := by
 unfold immE
 rw [if_pos (by decide)]
 rw [if_neg (by decide),if_pos (by decide),if_pos h]
theorem immE_30_no {v n : Int} (h : ¬ (0 ≤ v ∧ v < 8)) : immE 30 v n 8 = 13 := by
 unfold immE
 rw [if_pos (by decide)]
 rw [if_neg (by decide),if_pos (by decide),if_neg h]
set_option maxRecDepth 100000 in
set_option maxHeartbeats 1000000 in
theorem rimm_30 (V : Env) (s : ByteArray) (hs : s.size ≤ 140737488355328) (n : Int) (w : World) (A : V.A w) :
  Calls Tryz.prog 46 #[.int .i64 30,.string s,.int .i64 n] w fun e w' => ImmPost V.fp 30 s.data.toList n e ∧ Below w.heap.size w w' := by
 have hN := number_any' V s hs w A
 have nf : ∀ u,¬ Far 30 u := fun u h => absurd h.1 (by decide)
 go_enter Tryz.func46,Tryz.ntmps46
 go_wp2_with fail
 refine hN.mono ?_
 rintro e w1 ⟨⟨v,ok,rfl,h1,h2⟩,b1⟩
 clear hN
 cases ok with
 | false =>
  have H : Hid (ImmPost V.fp 30 s.data.toList n (.returned (.tuple #[.int .i64 0,.int .i64 4]))) := Lib.hid (num_no rfl (fun u hu he => by
   rw [immL_near (nf u)] at he
   exact absurd (h2 u hu he).1 (by simp)) n)
  clear h1 h2 nf
  go_wp2_with fail
  go_ret2
  exact ⟨H.out,b1⟩
 | true =>
  obtain ⟨hv,he⟩ := h1 rfl
  have hL : immL V.fp 30 v = s.data.toList := by rw [immL_near (nf v)]; exact he
  by_cases hlo : v < 0
  ·have H : Hid (ImmPost V.fp 30 s.data.toList n (.returned (.tuple #[.int .i64 0,.int .i64 13]))) := Lib.hid (num_yes V.F hv hL (immE_30_no (by omega)).symm (fun h => absurd h (by decide)))
   clear h1 h2 nf hL he
   go_wp2_with fail
   go_ret2
   exact ⟨H.out,b1⟩
  ·have d1 : decide (v < 0) = false := by simpa using hlo
   have d1' : 0 ≤ v := by omega
   by_cases hhi : 8 ≤ v
   ·have H : Hid (ImmPost V.fp 30 s.data.toList n (.returned (.tuple #[.int .i64 0,.int .i64 13]))) := Lib.hid (num_yes V.F hv hL (immE_30_no (by omega)).symm (fun h => absurd h (by decide)))
    clear h1 h2 nf hL he
    go_wp2_with fail
    go_ret2
    exact ⟨H.out,b1⟩
   ·have d2 : decide (8 ≤ v) = false := by simpa using hhi
    have d2' : v < 8 := by omega
    have H : Hid (ImmPost V.fp 30 s.data.toList n (.returned (.tuple #[.int .i64 v,.int .i64 0]))) := Lib.hid (num_yes V.F hv hL (immE_30_ok (by omega)).symm (fun _ => rfl))
    clear h1 h2 nf hL he
    go_wp2_with fail
    go_ret2
    exact ⟨H.out,b1⟩
theorem immE_1 (v n : Int) : immE 1 v n 8 = 0 := by
 unfold immE
 rw [if_pos (by decide),if_neg (by decide),if_neg (by decide)]
set_option maxRecDepth 100000 in
set_option maxHeartbeats 1000000 in
theorem rimm_1_plain (V : Env) (s : ByteArray) (hs : s.size ≤ 140737488355328) (n : Int) (hf : ∀ l,s.data.toList ≠ 102 :: l) (w : World) (A : V.A w) :
    Calls Tryz.prog 46 #[.int .i64 1,.string s,.int .i64 n] w fun e w' => ImmPost V.fp 1 s.data.toList n e ∧ Below w.heap.size w w' := by
  have hN := number_any' V s hs w A
  have hnf : ∀ u,InR u → immL V.fp 1 u = s.data.toList → ¬ Far 1 u ∧ Lib.itoa u = s.data.toList := fun u _ he => by
    by_cases h : Far 1 u
    · rw [immL_far h] at he
      exact absurd he.symm (hf _)
    · rw [immL_near h] at he
      exact ⟨h,he⟩
  have HNF := Lib.hid hnf
  have tail : ∀ (a : Int) (e : Ending) (w1 : World),NumPost s.data.toList e → Below w.heap.size w w1 → True := fun _ _ _ _ _ => trivial
  clear hnf tail
  have fin : ∀ {e : Ending} {w1 : World},NumPost s.data.toList e → ∃ (v : Int) (ok : Bool),e = .returned (.tuple #[.int .i64 v,.bool ok]) ∧ Hid ((ok = false ∨ Far 1 v) → ImmPost V.fp 1 s.data.toList n (.returned (.tuple #[.int .i64 0,.int .i64 4]))) ∧ Hid (ok = true → ¬ Far 1 v → ImmPost V.fp 1 s.data.toList n (.returned (.tuple #[.int .i64 v,.int .i64 0]))) := by
    rintro e w1 ⟨v,ok,rfl,h1,h2⟩
    refine ⟨v,ok,rfl,Lib.hid (fun h => ?_),Lib.hid (fun hok hn => ?_)⟩
    · refine num_no rfl (fun u hu he => ?_) n
      obtain ⟨a,b⟩ := HNF.out u hu he
      obtain ⟨c,d⟩ := h2 u hu b
      subst d
      rcases h with h | h
      · rw [c] at h; cases h
      · exact a h
    · obtain ⟨hv,he⟩ := h1 hok
      exact num_yes V.F hv (by rw [immL_near hn]; exact he) (immE_1 _ _).symm (fun _ => rfl)
  by_cases hsz : 0 < s.size
  · have hsz' : (0 : Int) < (s.size : Int) := by omega
    obtain ⟨c0,hc0⟩ : ∃ c,s[0]'hsz = c := ⟨_,rfl⟩
    have d0 : ((c0.toNat : Int) == 102) = false := by
      rw [beq_eq_false_iff_ne]
      intro h
      have : c0 = 102 := UInt8.toNat_inj.1 (by have : c0.toNat = 102 := by omega
                                               rw [this]; rfl)
      have h3 := drop_at hsz hc0
      rw [List.drop_zero,this] at h3
      exact hf _ h3
    clear hf
    go_enter Tryz.func46,Tryz.ntmps46
    go_wp2_with fail
    refine hN.mono ?_
    rintro e w1 ⟨hp,b1⟩
    obtain ⟨v,ok,rfl,H1,H2⟩ := fin (w1 := w1) hp
    clear hN fin hp
    cases ok with
    | false =>
      have H := Lib.hid (H1.out (.inl rfl))
      clear H1 H2
      go_wp2_with fail
      go_ret2
      exact ⟨H.out,b1⟩
    | true =>
      by_cases hlo : v < -4503599627370496
      · have H := Lib.hid (H1.out (.inr ⟨rfl,.inl hlo⟩))
        clear H1 H2
        go_wp2_with fail
        go_ret2
        exact ⟨H.out,b1⟩
      · have d1 : decide (v < -4503599627370496) = false := by simpa using hlo
        by_cases hhi : 4503599627370496 < v
        · have H := Lib.hid (H1.out (.inr ⟨rfl,.inr hhi⟩))
          clear H1 H2
          go_wp2_with fail
          go_ret2
          exact ⟨H.out,b1⟩
        · have d2 : decide (4503599627370496 < v) = false := by simpa using hhi
          have H := Lib.hid (H2.out rfl (fun f => by rcases f.2 with f | f <;> omega))
          clear H1 H2
          go_wp2_with fail
          go_ret2
          exact ⟨H.out,b1⟩
  · have hsz' : decide ((0 : Int) < (s.size : Int)) = false := decide_eq_false (by omega)
    have hsz'' : decide (0 < s.size) = false := by simpa using hsz
    clear hf
    go_enter Tryz.func46,Tryz.ntmps46
    go_wp2_with fail
    refine hN.mono ?_
    rintro e w1 ⟨hp,b1⟩
    obtain ⟨v,ok,rfl,H1,H2⟩ := fin (w1 := w1) hp
    clear hN fin hp
    cases ok with
    | false =>
      have H := Lib.hid (H1.out (.inl rfl))
      clear H1 H2
      go_wp2_with fail
      go_ret2
      exact ⟨H.out,b1⟩
    | true =>
      by_cases hlo : v < -4503599627370496
      · have H := Lib.hid (H1.out (.inr ⟨rfl,.inl hlo⟩))
        clear H1 H2
        go_wp2_with fail
        go_ret2
        exact ⟨H.out,b1⟩
      · have d1 : decide (v < -4503599627370496) = false := by simpa using hlo
        by_cases hhi : 4503599627370496 < v
        · have H := Lib.hid (H1.out (.inr ⟨rfl,.inr hhi⟩))
          clear H1 H2
          go_wp2_with fail
          go_ret2
          exact ⟨H.out,b1⟩
        · have d2 : decide (4503599627370496 < v) = false := by simpa using hhi
          have H := Lib.hid (H2.out rfl (fun f => by rcases f.2 with f | f <;> omega))
          clear H1 H2
          go_wp2_with fail
          go_ret2
          exact ⟨H.out,b1⟩
set_option maxRecDepth 100000 in
set_option maxHeartbeats 1000000 in
theorem rimm_1_f (V : Env) (D : DEnv V) (s : ByteArray) (n : Int) (r : List UInt8) (hf : s.data.toList = 102 :: r) (w : World) :
  Calls Tryz.prog 46 #[.int .i64 1,.string s,.int .i64 n] w fun e w' => ImmPost V.fp 1 s.data.toList n e ∧ Below w.heap.size w w' := by
 have hsz : 0 < s.size := by rw [← szl,hf]; simp
 have hsz' : (0 : Int) < (s.size : Int) := by omega
 have hsz1 : (1 : Int) ≤ (s.size : Int) := by omega
 obtain ⟨c0,hc0⟩ : ∃ c,s[0]'hsz = c := ⟨_,rfl⟩
 have h3 := drop_at hsz hc0
 rw [List.drop_zero,hf] at h3
 have ec : c0 = 102 := by injection h3 with h3 _; exact h3.symm
 have d0 : ((c0.toNat : Int) == 102) = true := by subst ec; rfl
 obtain ⟨T,hT⟩ : ∃ T : ByteArray,Hid (s.extract 1 s.size = T) := ⟨_,rfl⟩
 have hTl : T.data.toList = r := by
  rw [← hT.out,ext_list,hf]
  simp only [List.drop_succ_cons,List.drop_zero]
  have : r.length = s.size - 1 := by have := szl s; rw [hf] at this; simp at this; omega
  rw [← this,List.take_length]
 have hsl : ∀ W,(Instr.slice 9 (.string s) (some (.int .i64 1)) none none).run Tryz.prog W = .ok (.string T) W := fun W => by
  rw [← hT.out]
  simp [go_sem,hsz1]
 have hP := D.pa T w
 rw [hTl] at hP
 have NO : ∀ y : Int,((∀ v,InR v → V.fp v ≠ r) ∨ (InR y ∧ V.fp y = r ∧ ¬ Far 1 y)) → Hid (ImmPost V.fp 1 s.data.toList n (.returned (.tuple #[.int .i64 0,.int .i64 4]))) := fun y h => Lib.hid (num_no rfl (fun u hu he => by
  by_cases hF : Far 1 u
  ·rw [immL_far hF,hf] at he
   injection he with _ he
   rcases h with h | ⟨hy,e,hn⟩
   ·exact h u hu he
   ·have := V.F.inj u y hu.1 hu.2 hy.1 hy.2 (he.trans e.symm)
    subst this
    exact hn hF
  ·rw [immL_near hF,hf] at he
   exact head_itoa he) n)
 have YES : ∀ y : Int,InR y → V.fp y = r → Far 1 y → Hid (ImmPost V.fp 1 s.data.toList n (.returned (.tuple #[.int .i64 y,.int .i64 0]))) := fun y hy e hF => Lib.hid (num_yes V.F hy (by rw [immL_far hF,hf,e]) (immE_1 _ _).symm (fun _ => rfl))
 have HNO := Lib.hid NO
 have HYES := Lib.hid YES
 clear NO YES hTl hT h3 ec hf
 go_enter Tryz.func46,Tryz.ntmps46
 go_wp2_with fail
 refine hP.mono ?_
 rintro e w1 ⟨y,k,hyk,rfl,b1⟩
 rcases hyk with ⟨hk,hno⟩ | ⟨hy,rfl,he⟩
 ·have H := HNO.out 0 (.inl hno)
  have dk : (k == 0) = false := by simpa using hk
  have dkn : (k != 0) = true := by rw [bne,dk]; rfl
  clear HNO HYES hno hk
  go_wp2_with fail
  go_ret2
  exact ⟨H.out,b1⟩
 ·by_cases hlo : y < -4503599627370496
  ·have H := HYES.out y hy he ⟨rfl,.inl hlo⟩
   have d1 : decide (-4503599627370496 ≤ y) = false := by simp; omega
   clear HNO HYES he
   go_wp2_with fail
   go_ret2
   exact ⟨H.out,b1⟩
  ·have d1 : -4503599627370496 ≤ y := by omega
   by_cases hhi : 4503599627370496 < y
   ·have H := HYES.out y hy he ⟨rfl,.inr hhi⟩
    have d2 : decide (y ≤ 4503599627370496) = false := by simp; omega
    clear HNO HYES he hlo
    go_wp2_with fail
    go_ret2
    exact ⟨H.out,b1⟩
   ·have d2 : y ≤ 4503599627370496 := by omega
    have H := HNO.out y (.inr ⟨hy,he,fun f => by rcases f.2 with f | f <;> omega⟩)
    clear HNO HYES he hlo hhi
    go_wp2_with fail
    go_ret2
    exact ⟨H.out,b1⟩
theorem rimm_all (V : Env) (D : DEnv V) (o : Nat) (ho : o < 34) (hi : hI (o : Int) = true) (s : ByteArray) (hs : s.size ≤ 140737488355328) (n : Int) (w : World) (A : V.A w) :
  Calls Tryz.prog 46 #[.int .i64 o,.string s,.int .i64 n] w fun e w' => ImmPost V.fp o s.data.toList n e ∧ Below w.heap.size w w' := by
 have key : ∀ k : Fin 34,hI (k.val : Int) = true → k.val = 1 ∨ k.val = 22 ∨ k.val = 23 ∨ k.val = 29 ∨ k.val = 30 := by decide
 rcases key ⟨o,ho⟩ hi with h | h | h | h | h
 ·have h : o = 1 := h
  subst h
  cases e : s.data.toList with
  | nil => rw [← e]; exact rimm_1_plain V s hs n (fun l h => by rw [e] at h; cases h) w A
  | cons c r =>
   by_cases hc : c = 102
   ·subst hc
    rw [← e]
    exact rimm_1_f V D s n r e w
   ·rw [← e]
    exact rimm_1_plain V s hs n (fun l h => by rw [e] at h; injection h with h _; exact hc h) w A
 ·have h : o = 22 := h
  subst h
  exact rimm_22 V s hs n w A
 ·have h : o = 23 := h
  subst h
  exact rimm_23 V s hs n w A
 ·have h : o = 29 := h
  subst h
  exact rimm_29 V s hs n w A
 ·have h : o = 30 := h
  subst h
  exact rimm_30 V s hs n w A
end Go.Proofs.YtalaajniammggaaGreatDoor
