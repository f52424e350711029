/- The reader's programs. -/
import Derived.Test.YtmjokinagbpihaaDoorQW8
namespace Go.Proofs.YtmjokinagbpihaaDoor
open Go.RowKit

theorem insCells_one (x : Ins) : ∀ u ∈ insCells x, u.oneCell' = true := by
  intro u hu
  simp only [insCells, List.mem_cons, List.not_mem_nil, or_false] at hu
  rcases hu with rfl | rfl | rfl | rfl | rfl <;> rfl

def codI (w : World) (r : Nat) (a : Option Addr) (cap : Nat) (bs : List Nat) (K : Int) (p n : Nat) (wr : World) (a1 : Option Addr) (c1 : Nat) (l : List Ins) (s : St) : Prop :=
  MkI w r a cap bs s wr 71 5 a1 l.length c1 (pCells l) ∧ Stage (codP K bs p) s (repP (fun _ => insP n K) (n - l.length) l bs s.nx) ∧ (s.e = 0 → n ≤ 256)

/-- How a program is left. -/
def codOut (w : World) (r : Nat) (a : Option Addr) (cap : Nat) (bs : List Nat) (K : Int) (p : Nat) (a1 : Option Addr) (c1 : Nat) (l : List Ins) (w' : World) : Prop :=
  ∃ s, MkI w r a cap bs s w' 71 5 a1 l.length c1 (pCells l) ∧ Stage (codP K bs p) s (pure_ l bs s.nx) ∧ l.length ≤ 65536

section
variable {w : World} {r : Nat} {a : Option Addr} {cap : Nat} {bs : List Nat} {s : St}
set_option maxRecDepth 100000 in
set_option maxHeartbeats 4000000 in
theorem program_any (h : RdAt w r a cap bs s) (hF : Fld w) (hr : 2 ≤ r) (h0 : s.e = 0 ∧ s.at_ = 0) (K : Int) :
    Calls Tryd.prog 59 #[.pointer (some ⟨r, 0, none⟩), .int .i64 K] w fun e w' => ∃ a1 c1 l, e = .returned (.slice a1 (List.length l) c1) ∧ codOut w r a cap bs K s.nx a1 c1 l w' := by
  have hc := small_any h 2 ⟨by omega, by omega⟩
  have hl := numS_lt (s := s) h.byte 2 (by omega)
  have H := hd h
  have HF := hd hF
  have HI : Hid (∀ W, ROut w r a cap bs (failS (numS bs 2 s).2 (lenE (numS bs 2 s).1) (numS bs 2 s).2.fr) W → codI w r a cap bs K s.nx (numS bs 2 s).1 W none 0 [] (failS (numS bs 2 s).2 (lenE (numS bs 2 s).1) (numS bs 2 s).2.fr)) := hd (by
    intro W o
    refine ⟨⟨o, Row.nil, fun k hk => by cases hk⟩, ?_, fun hz => ?_⟩
    · exact Stage.chk (k := 2) (f := lenE) (g := fun n => repP (fun _ => insP n K) n []) (.inl ⟨h0.1, h0.2, rfl⟩)
    · have h1 := (chk_val (k := 2) (f := lenE) hz).2.1
      have h2 : (chkS bs 2 lenE s).1 = (numS bs 2 s).1 := rfl
      rw [h2] at h1
      unfold lenE at h1
      split at h1
      · simp at h1
      · omega)
  have HE : Hid (lenE (numS bs 2 s).1 = if 256 < (numS bs 2 s).1 then 3 else 0) := hd rfl
  clear h h0 hF
  generalize lenE (numS bs 2 s).1 = E at *
  generalize (numS bs 2 s).1 = n at *
  generalize (numS bs 2 s).2 = s1 at *
  generalize s.nx = p at *
  go_enter Tryd.func59, Tryd.ntmps59
  go_upto_region 2 with (go_at_call 67; refine hc.mono ?_; rintro e w1 ⟨rfl, ho⟩)
  replace ho := hd ho
  have k1 := ho.out.1.cells.2.1
  have hf := fail_any ho.out.1 3 s1.fr
  clear hc
  go_upto_if 10 with fail
  go_cut [10] from 11 to 16 (fun v10 wy => ROut w r a cap bs (failS s1 E s1.fr) wy)
  case first =>
    by_cases h2 : 256 < n
    · have h2' : (256 : Int) < (n : Int) := by omega
      obtain rfl : E = 3 := by rw [HE.out, if_pos h2]
      clear HE
      go_wp2_with (go_at_call 68; refine hf.mono ?_; rintro e w2 ⟨rfl, ho2⟩)
      go_meet
      exact ho.out.trans ho2
    · have h2' : (n : Int) ≤ 256 := by omega
      have h2d : decide ((256 : Int) < (n : Int)) = false := by simp; omega
      obtain rfl : E = 0 := by rw [HE.out, if_neg h2]
      clear HE
      go_wp2_with fail
      go_meet
      rw [failS_ok]
      exact ho.out
  case rest =>
  have HJ := hd (HI.out _ hcut)
  clear HI hcut hf k1 ho HE
  generalize failS s1 E s1.fr = s2 at *
  go_wp2_with fail
  go_loopg [6, 17, 18, 19, 20, 21, 22, 23, 24, 25, 26, 27, 28, 29, 30, 31, 32] n (fun g v6 v17 v18 v19 v20 v21 v22 v23 v24 v25 v26 v27 v28 v29 v30 v31 v32 wr => ∃ (l : List Ins) (len : Nat) (a1 : Option Addr) (c1 : Nat) (s' : St), v6 = .slice a1 len c1 ∧ len + g = n ∧ Hid (l.length = len) ∧ Hid (codI w r a cap bs K p n wr a1 c1 l s'))
  case atStart => exact ⟨[], 0, none, 0, s2, rfl, by omega, hd rfl, HJ⟩
  case round =>
    clear HJ
    obtain ⟨l, len, a1, c1, s', rfl, hlen, HL, HW⟩ := hrel
    by_cases h0 : gk = 0
    · subst h0
      have hge : decide ((len : Int) < (n : Int)) = false := by simp; omega
      have hge' : (n : Int) ≤ (len : Int) := by omega
      have HE : Hid (∃ l', Ending.returned (.slice a1 len c1) = .returned (.slice a1 (List.length l') c1) ∧ codOut w r a cap bs K p a1 c1 l' wr) := hd (by
        refine ⟨l, by rw [HL.out], s', HW.out.1, ?_, by have := HL.out; omega⟩
        have := HW.out.2.1
        rw [show n - l.length = 0 by have := HL.out; omega] at this
        exact this)
      clear HW HL
      go_wp2_with fail
      go_ret
      obtain ⟨l', h1, h2⟩ := HE.out
      exact ⟨a1, c1, l', h1, h2⟩
    · have hlt : (len : Int) < (n : Int) := by omega
      by_cases hz : s'.e = 0
      · have hf := failed_any HW.out.1.out.1 false (by simp [hz])
        have hnum := ins_any HW.out.1.out.1 (HF.out.mod HW.out.1.out.2 (by omega)) hr n K
        have HP : Hid (∀ W, ROut wr r a cap bs (insS bs n K s') W → ∃ a' c' w', (∀ ty, (Builtin.append_ #[39, 39] ty #[.slice a1 len c1, .slice (some ⟨W.heap.size, 0, none⟩) 1 1]).run Tryd.prog (W.alloc (.cells #[.int .i64 (rawI bs s').op, .int .i64 (rawI bs s').a, .int .i64 (rawI bs s').b, .int .i64 (rawI bs s').c, .int .i64 (rawI bs s').imm] 71)) = .ok (.slice a' (len + 1) c') w') ∧ ∃ s'', codI w r a cap bs K p n w' a' c' (l ++ [rawI bs s']) s'') := hd (by
          intro W o
          have h1 := HW.out.1.step H.out.lt o
          rw [HL.out] at h1
          obtain ⟨a', c', w', k1, k2⟩ := h1.push H.out Tryd.underlying39 info_insn rfl (by omega) (by omega) (insCells (rawI bs s')) rfl (insCells_one _)
          refine ⟨a', c', w', k1, insS bs n K s', ?_, ?_, ?_⟩
          · rw [pCells_snoc, show (l ++ [rawI bs s']).length = len + 1 by simp [HL.out]]
            exact k2
          · have hst := HW.out.2.1
            have hll := HL.out
            rw [show n - l.length = (n - (l.length + 1)) + 1 by omega] at hst
            rw [show n - (l ++ [rawI bs s']).length = n - (l.length + 1) by simp]
            exact Stage.ins (by omega) hst hz HW.out.1.out.1.nx
          · intro _
            exact HW.out.2.2 hz)
        clear HW h0 hz
        generalize insS bs n K s' = s3 at *
        generalize rawI bs s' = x at *
        obtain ⟨o0, o1, o2, o3, o4⟩ := x
        unfold insV at hnum
        simp only at hnum HP
        go_wp2_with (first | (go_at_call 53; refine hf.mono ?_; rintro e w1 ⟨rfl, rfl⟩) | (go_at_call 70; refine hnum.mono ?_; rintro e w2 ⟨rfl, ho⟩; obtain ⟨a', c', w3, hap, s'', hI⟩ := HP.out w2 ho; replace hap := hd hap) | (at_builtin; refine wpList_append_run rfl _ _ _ rfl _ _ _ _ rfl rfl hap.out ?_; clear hap))
        go_roundg (gk - 1)
        case rel => exact ⟨l ++ [⟨o0, o1, o2, o3, o4⟩], len + 1, a', c', s'', rfl, by omega, hd (by rw [← HL.out]; simp), hd hI⟩
        case measure => omega
      · have hf := failed_any HW.out.1.out.1 true (by simp [hz])
        have HE : Hid (∃ l', Ending.returned (.slice a1 len c1) = .returned (.slice a1 (List.length l') c1) ∧ codOut w r a cap bs K p a1 c1 l' wr) := hd (by
          refine ⟨l, by rw [HL.out], s', HW.out.1, ?_, by have := HL.out; omega⟩
          exact .inr ⟨hz, HW.out.2.1.bad hz⟩)
        clear HW HL h0 hz
        go_wp2_with (go_at_call 53; refine hf.mono ?_; rintro e w1 ⟨rfl, rfl⟩)
        go_ret
        obtain ⟨l', h1, h2⟩ := HE.out
        exact ⟨a1, c1, l', h1, h2⟩
end
end Go.Proofs.YtmjokinagbpihaaDoor
