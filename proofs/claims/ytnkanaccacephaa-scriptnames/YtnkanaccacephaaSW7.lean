/- The program's reader: all steps. -/
import Derived.Test.YtnkanaccacephaaSW6
namespace Go.Proofs.Ytnkanaccacephaa
open Go.RowKit

/-- A row of the call's own that is being made beside the reader. -/
structure MkI (w : World) (r : Nat) (a : Option Addr) (cap : Nat) (bs : List Nat) (s : St) (wr : World) (e size : Nat) (a1 : Option Addr) (n c1 : Nat) (xs : List Value) : Prop where
  out : ROut w r a cap bs s wr
  row : Row wr e size a1 n c1 xs
  new : ∀ k, blk a1 = some k → w.heap.size ≤ k
section
variable {w wr w1 : World} {r : Nat} {a : Option Addr} {cap : Nat} {bs : List Nat} {s s' : St} {e size n c1 : Nat} {a1 : Option Addr} {xs : List Value}
theorem RdAt.alt (h : RdAt w r a cap bs s) : ∀ k, blk a = some k → k < w.heap.size ∨ bs.length = 0 := fun k hk => by
  by_cases hb : bs.length = 0
  · exact .inr hb
  · obtain ⟨b, o, rfl, hc⟩ := h.at 0 (by omega)
    cases hk
    exact .inl (World.block_lt_of_cell? w _ hc)
theorem MkI.step (h : MkI w r a cap bs s wr e size a1 n c1 xs) (hr : r < w.heap.size) (o : ROut wr r a cap bs s' w1) : MkI w r a cap bs s' w1 e size a1 n c1 xs :=
  ⟨h.out.trans o, h.row.mod o.2 (fun k hk e => by have := h.new k hk; omega), h.new⟩
theorem MkI.after (h : MkI w r a cap bs s wr e size a1 n c1 xs) (hb : Below wr.heap.size wr w1) : MkI w r a cap bs s w1 e size a1 n c1 xs :=
  ⟨h.out.after hb, h.row.below hb, h.new⟩
theorem MkI.push {T : TypeId} {z : Value} {bytes : Nat} (h : MkI w r a cap bs s wr e size a1 n c1 xs) (h0 : RdAt w r a cap bs s') (hu : Try.prog.underlying T = some (.slice e)) (hinfo : (Try.prog.info? e).map (fun i => (i.zero, i.size, i.bytes)) = some (some z, size, bytes)) (hzs : z.cells.size = size) (hb64 : bytes ≤ 64)
    (hn : n ≤ 1000000000000) (us : List Value) (hus : us.length = size) (h1 : ∀ u ∈ us, u.oneCell' = true) :
    ∃ a' c' w', (∀ ty, (Builtin.append_ #[T, T] ty #[.slice a1 n c1, .slice (some ⟨wr.heap.size, 0, none⟩) 1 1]).run Try.prog (wr.alloc (.cells us.toArray e)) = .ok (.slice a' (n + 1) c') w') ∧ MkI w r a cap bs s w' e size a' (n + 1) c' (xs ++ us) := by
  obtain ⟨a', c', w', k1, k2, k3, k4⟩ := push_any hu hinfo hzs hb64 h.row hn us hus h1
  have hr := h0.lt
  refine ⟨a', c', w', k1, ⟨⟨?_, h.out.2.trans k3 (fun i hi => .inr (h.new i hi))⟩, k2, fun k hk => ?_⟩⟩
  · have o := h.out.1
    refine ⟨?_, Rd.apart h0.rd o.rd k3 h.new rfl, o.ne, o.byte, o.le, o.room, o.nx, o.fr⟩
    rw [k3.block r o.lt (fun e => by have := h.new r e; omega)]
    exact o.obj
  · rcases k4 k hk with h' | h'
    · exact h.new k h'
    · have := h.out.2.size
      omega
end

theorem info_step : (Try.prog.info? 38).map (fun i => (i.zero, i.size, i.bytes)) = some (some (.agg #[.int .i64 0, .int .i64 0, .int .i64 0]), 3, 24) := by kernel_rfl

theorem Stage.bad' {α : Type} {whole rest rest' : Res α} {s : St} (h : Stage whole s rest) (h0 : s.e ≠ 0) : Stage whole s rest' := .inr ⟨h0, h.bad h0⟩
theorem fin_stage {bs : List Nat} {whole : Res (List Stp)} {s : St} {l : List Stp} (h : Stage whole s (fin l bs s.nx)) : ((failS s (if s.nx < bs.length then 6 else 0) s.nx).e = 0 ∧ ∃ q, whole = .ok l q) ∨ ((failS s (if s.nx < bs.length then 6 else 0) s.nx).e ≠ 0 ∧ whole = .er (failS s (if s.nx < bs.length then 6 else 0) s.nx).e (failS s (if s.nx < bs.length then 6 else 0) s.nx).at_) := by
  by_cases h0 : s.e = 0
  · have hw := (h.good h0).1
    unfold fin at hw
    by_cases h1 : s.nx < bs.length
    · rw [if_pos h1] at hw ⊢
      rw [failS_set h0 (by decide)]
      exact .inr ⟨by simp, hw⟩
    · rw [if_neg h1] at hw ⊢
      rw [failS_ok]
      exact .inl ⟨h0, _, hw⟩
  · rw [failS_bad h0]
    exact .inr ⟨h0, h.bad h0⟩
theorem steps_zero (l : List Stp) : bind_ (stepsP 0 l) fin = fin l := rfl
theorem steps_more (g : Nat) (l : List Stp) : bind_ (stepsP (g + 1) l) fin = bind_ stepP (fun x => bind_ (stepsP g (l ++ [x])) fin) := by
  unfold stepsP
  rw [repP, bind_assoc]
theorem body_eq : bind_ bodyP fin = bind_ (numP 2 manyE) (fun m => bind_ (stepsP m []) fin) := by
  unfold bodyP
  rw [bind_assoc]

section
variable {w : World} {r : Nat} {a : Option Addr} {cap : Nat} {bs : List Nat} {s : St}
set_option maxRecDepth 100000 in
set_option maxHeartbeats 4000000 in
theorem script_any (h : RdAt w r a cap bs s) (h0 : s.e = 0 ∧ s.at_ = 0 ∧ s.nx = 0) :
    Calls Try.prog 23 #[.pointer (some ⟨r, 0, none⟩)] w fun e w' => ∃ (l : List Stp) (a1 : Option Addr) (c1 : Nat) (s' : St), e = .returned (.slice a1 l.length c1) ∧ MkI w r a cap bs s' w' 38 3 a1 l.length c1 (sCells l) ∧ ((s'.e = 0 ∧ ∃ q, wholeS bs = .ok l q) ∨ (s'.e ≠ 0 ∧ wholeS bs = .er s'.e s'.at_)) := by
  have hh := head_any h h0
  have HS : Hid (∀ s1 acc, Stage (repP (fun acc => numP 1 (hdF acc)) 5 [] bs 0) s1 (pure_ acc bs s1.nx) → Stage (wholeS bs) s1 (bind_ (numP 2 manyE) (fun m => bind_ (stepsP m []) fin) bs s1.nx)) := hd (fun s1 acc hst => by
    have h1 : Stage (wholeS bs) s (bind_ headP (fun _ => bind_ bodyP fin) bs s.nx) := .inl ⟨h0.1, h0.2.1, by rw [h0.2.2]; rfl⟩
    have hst' : Stage (headP bs s.nx) s1 (pure_ acc bs s1.nx) := by rw [h0.2.2]; exact hst
    have h2 := Stage.sub h1 h0.1 hst'
    rw [body_eq] at h2
    exact h2)
  have hr := hd h.lt
  have HR := hd h
  clear h h0
  go_enter Try.func23, Try.ntmps23
  go_upto_region 3 with (go_at_call 31; refine hh.mono ?_; rintro e w1 ⟨rfl, s1, o1, acc, hst⟩; have st1 := hd (HS.out s1 acc hst); clear hst; replace o1 := hd o1)
  clear hh HS
  have hc := count_any o1.out.1
  have hch := Stage.chk st1.out
  have hns := num_small (bs := bs) (s := s1) HR.out.byte 2 (by omega)
  rw [show (numS bs 2 s1).1 = (chkS bs 2 manyE s1).1 from rfl] at hns
  generalize (chkS bs 2 manyE s1).1 = N at *
  generalize (chkS bs 2 manyE s1).2 = s2 at *
  have HX : Hid (∀ W, ROut w1 r a cap bs s2 W → MkI w r a cap bs s2 W 38 3 none ([] : List Stp).length 0 (sCells []) ∧ Stage (wholeS bs) s2 (bind_ (stepsP N []) fin bs s2.nx)) := hd (fun W o => ⟨⟨o1.out.trans o, Row.nil, fun k hk => by cases hk⟩, hch⟩)
  clear hch st1 o1
  go_upto_block 0 with (go_at_call 32; refine hc.mono ?_; rintro e w2 ⟨rfl, o2⟩; have HI := hd (HX.out w2 o2); clear o2)
  clear HX hc
  go_wp2_with fail
  go_loopg [3, 9, 10, 11, 12, 13, 14, 15, 16, 17, 18, 19, 20, 21, 22] N (fun g v3 v9 v10 v11 v12 v13 v14 v15 v16 v17 v18 v19 v20 v21 v22 wr => ∃ (l : List Stp) (a1 : Option Addr) (c1 : Nat), l.length + g = N ∧ v3 = .slice a1 l.length c1 ∧ Hid (∃ s', MkI w r a cap bs s' wr 38 3 a1 l.length c1 (sCells l) ∧ Stage (wholeS bs) s' (bind_ (stepsP g l) fin bs s'.nx)))
  case atStart => exact ⟨[], none, 0, by simp, rfl, hd ⟨s2, HI.out⟩⟩
  case round =>
    obtain ⟨l, a1, c1, hlN, rfl, HL⟩ := hrel
    clear HI
    obtain ⟨s', hm, hst⟩ := HL.out
    clear HL
    by_cases hg : gk = 0
    · subst hg
      rw [steps_zero] at hst
      have d0 : decide ((l.length : Int) < (N : Int)) = false := by simp; omega
      have d0' : (N : Int) ≤ (l.length : Int) := by omega
      have HM := hd hm
      replace hst := hd hst
      have hre := rest_any hm.out.1
      clear hm
      go_wp2_with ((go_at_call 34; refine hre.mono ?_; rintro e w4 ⟨rfl, o4⟩; replace o4 := hd o4))
      go_ret
      exact ⟨l, a1, c1, _, rfl, HM.out.step hr.out o4.out, fin_stage hst.out⟩
    · have d0 : (l.length : Int) < (N : Int) := by omega
      by_cases he : s'.e = 0
      · have hf := failed_any hm.out.1 false (by simp [he])
        obtain ⟨g, rfl⟩ : ∃ g, gk = g + 1 := ⟨gk - 1, by omega⟩
        rw [steps_more] at hst
        have hx := Stage.step hst
        have hsp := step_any hm.out.1
        generalize (stR bs s').1 = X at *
        generalize (stR bs s').2 = s5 at *
        have HM := hd hm
        have HA : Hid (∀ W, ROut wr r a cap bs s5 W → ∃ a' c' w', (∀ ty, (Builtin.append_ #[23, 23] ty #[.slice a1 l.length c1, .slice (some ⟨W.heap.size, 0, none⟩) 1 1]).run Try.prog (W.alloc (.cells #[.int .i64 X.k, .int .i64 X.n, .int .i64 X.v] 38)) = .ok (.slice a' (l.length + 1) c') w') ∧ MkI w r a cap bs s5 w' 38 3 a' (l.length + 1) c' (sCells (l ++ [X]))) := hd (fun W o => by
          have h := (HM.out.step hr.out o).push HR.out Try.underlying23 info_step rfl (by omega) (by omega) (stC X) rfl (stC_one X)
          obtain ⟨a', c', w', h1, h2⟩ := h
          exact ⟨a', c', w', h1, by rw [← sCells_app]; exact h2⟩)
        have hx' := hd hx
        clear hx hst hm HM he
        unfold stV at hsp
        obtain ⟨xk, xn, xv⟩ := X
        simp only at hsp HA
        go_upto_region 5 with (go_at_call 24; refine hf.mono ?_; rintro e wr ⟨rfl, rfl⟩)
        go_wp2_with (first | (go_at_call 33; refine hsp.mono ?_; rintro e w5 ⟨rfl, o5⟩; obtain ⟨a', c', w6, hap, hm6⟩ := HA.out w5 o5; replace hap := hd hap; replace hm6 := hd hm6; clear o5) | (at_builtin; refine wpList_append_run rfl _ _ _ rfl _ _ _ _ rfl rfl hap.out ?_; clear hap))
        go_roundg g
        case rel => exact ⟨l ++ [⟨xk, xn, xv⟩], a', c', by simp; omega, by simp, hd ⟨s5, by simpa using hm6.out, hx'.out⟩⟩
        case measure => omega
      · have hf := failed_any hm.out.1 true (by simp [he])
        replace hst : Stage (wholeS bs) s' (fin l bs s'.nx) := hst.bad' he
        replace he := hd he
        have HM := hd hm
        replace hst := hd hst
        have hre := rest_any hm.out.1
        clear hm
        go_wp2_with (first | (go_at_call 24; refine hf.mono ?_; rintro e wr ⟨rfl, rfl⟩) | (go_at_call 34; refine hre.mono ?_; rintro e w4 ⟨rfl, o4⟩; replace o4 := hd o4))
        go_ret
        exact ⟨l, a1, c1, _, rfl, HM.out.step hr.out o4.out, fin_stage hst.out⟩
end
end Go.Proofs.Ytnkanaccacephaa
