/- The reader's table. -/
import Derived.Test.YtmjokinagbpihaaDoorQW5
namespace Go.Proofs.YtmjokinagbpihaaDoor
open Go.RowKit

/-- Numbers as cells. -/
def natC (l : List Nat) : List Value := l.map fun n : Nat => Value.int .i64 (n : Int)
theorem natC_one (l : List Nat) : ∀ u ∈ natC l, u.oneCell' = true := by
  intro u hu
  obtain ⟨x, _, rfl⟩ := List.mem_map.mp hu
  rfl
theorem natC_app (l m : List Nat) : natC l ++ natC m = natC (l ++ m) := by simp [natC]

def tabI (w : World) (r : Nat) (a : Option Addr) (cap : Nat) (bs : List Nat) (P p n : Nat) (wr : World) (a1 : Option Addr) (c1 : Nat) (l : List Nat) (s : St) : Prop :=
  MkI w r a cap bs s wr 3 1 a1 l.length c1 (natC l) ∧ Stage (tabP P bs p) s (repP (fun _ => ptP P) (n - l.length) l bs s.nx)

/-- How a table is left. -/
def tabOut (w : World) (r : Nat) (a : Option Addr) (cap : Nat) (bs : List Nat) (P p : Nat) (a1 : Option Addr) (c1 : Nat) (l : List Nat) (w' : World) : Prop :=
  ∃ s, MkI w r a cap bs s w' 3 1 a1 l.length c1 (natC l) ∧ Stage (tabP P bs p) s (pure_ l bs s.nx) ∧ l.length ≤ 255

theorem chk_le255 {bs : List Nat} {s : St} {f : Nat → Int} (hb : Byte bs) : (chkS bs 1 f s).1 ≤ 255 := by
  unfold chkS numS
  split
  · simp
  · split
    · simp
    · have := sumB_lt bs s.nx hb 1
      simp only
      omega

section
variable {w : World} {r : Nat} {a : Option Addr} {cap : Nat} {bs : List Nat} {s : St}
set_option maxRecDepth 100000 in
set_option maxHeartbeats 4000000 in
theorem table_any (h : RdAt w r a cap bs s) (h0 : s.e = 0 ∧ s.at_ = 0) (P : Nat) (hP : P ≤ 1000000) :
    Calls Tryd.prog 55 #[.pointer (some ⟨r, 0, none⟩), .int .i64 P] w fun e w' => ∃ a1 c1 l, e = .returned (.slice a1 (List.length l) c1) ∧ tabOut w r a cap bs P s.nx a1 c1 l w' := by
  have hc := count_any h 64
  have H := hd h
  have HI : Hid (∀ W, ROut w r a cap bs (chkS bs 1 (fun n => cntE 64 n) s).2 W → tabI w r a cap bs P s.nx (chkS bs 1 (fun n => cntE 64 n) s).1 W none 0 [] (chkS bs 1 (fun n => cntE 64 n) s).2) := hd (by
    intro W o
    refine ⟨⟨o, Row.nil, fun k hk => by cases hk⟩, ?_⟩
    exact Stage.chk (g := fun n => repP (fun _ => ptP P) n []) (.inl ⟨h0.1, h0.2, rfl⟩))
  have hn255 : (chkS bs 1 (fun n => cntE 64 n) s).1 ≤ 255 := chk_le255 h.byte
  clear h h0
  generalize (chkS bs 1 (fun n => cntE 64 n) s).1 = n at *
  generalize (chkS bs 1 (fun n => cntE 64 n) s).2 = s1 at *
  generalize s.nx = p at *
  go_enter Tryd.func55, Tryd.ntmps55
  go_upto_block 0 with (go_at_call 57; refine hc.mono ?_; rintro e w1 ⟨rfl, ho⟩)
  have HJ := hd (HI.out _ ho)
  clear HI hc ho
  go_wp2_with fail
  go_loopg [5, 9, 10, 11, 12, 13, 14, 15, 16, 17, 18, 19, 20, 21, 22, 23] n (fun g v5 v9 v10 v11 v12 v13 v14 v15 v16 v17 v18 v19 v20 v21 v22 v23 wr => ∃ (l : List Nat) (len : Nat) (a1 : Option Addr) (c1 : Nat) (s' : St), v5 = .slice a1 len c1 ∧ len + g = n ∧ Hid (l.length = len) ∧ Hid (tabI w r a cap bs P p n wr a1 c1 l s'))
  case atStart => exact ⟨[], 0, none, 0, s1, rfl, by omega, hd rfl, HJ⟩
  case round =>
    clear HJ
    obtain ⟨l, len, a1, c1, s', rfl, hlen, HL, HW⟩ := hrel
    by_cases h0 : gk = 0
    · subst h0
      have hge : decide ((len : Int) < (n : Int)) = false := by simp; omega
      have hge' : (n : Int) ≤ (len : Int) := by omega
      have HE : Hid (∃ l', Ending.returned (.slice a1 len c1) = .returned (.slice a1 (List.length l') c1) ∧ tabOut w r a cap bs P p a1 c1 l' wr) := hd (by
        refine ⟨l, by rw [HL.out], s', HW.out.1, ?_, by have := HL.out; omega⟩
        have := HW.out.2
        rw [show n - l.length = 0 by have := HL.out; omega] at this
        exact this)
      clear HW HL
      go_wp2_with fail
      go_ret
      obtain ⟨l', h1, h2⟩ := HE.out
      exact ⟨a1, c1, l', h1, h2⟩
    · have hlt : (len : Int) < (n : Int) := by omega
      by_cases hz : s'.e = 0
      · have hf := failed_any HW.out.1.out.1 false (by simp [hz])
        have hnum := part_any HW.out.1.out.1 P hP
        have HP : Hid (∀ W, ROut wr r a cap bs (chkS bs 1 (fun n => rngE 0 ((P : Int) - 1) n) s').2 W → ∃ a' c' w', (∀ ty, (Builtin.append_ #[24, 24] ty #[.slice a1 len c1, .slice (some ⟨W.heap.size, 0, none⟩) 1 1]).run Tryd.prog (W.alloc (.cells #[.int .i64 ((chkS bs 1 (fun n => rngE 0 ((P : Int) - 1) n) s').1 : Nat)] 3)) = .ok (.slice a' (len + 1) c') w') ∧ ∃ s'', tabI w r a cap bs P p n w' a' c' (l ++ [(chkS bs 1 (fun n => rngE 0 ((P : Int) - 1) n) s').1]) s'') := hd (by
          intro W o
          have h1 := HW.out.1.step H.out.lt o
          rw [HL.out] at h1
          obtain ⟨a', c', w', k1, k2⟩ := h1.push H.out Tryd.underlying24 info_int rfl (by omega) (by omega) [.int .i64 ((chkS bs 1 (fun n => rngE 0 ((P : Int) - 1) n) s').1 : Nat)] rfl (natC_one [(chkS bs 1 (fun n => rngE 0 ((P : Int) - 1) n) s').1])
          refine ⟨a', c', w', k1, (chkS bs 1 (fun n => rngE 0 ((P : Int) - 1) n) s').2, ?_, ?_⟩
          · rw [← natC_app, show (l ++ [(chkS bs 1 (fun n => rngE 0 ((P : Int) - 1) n) s').1]).length = len + 1 by simp [HL.out]]
            exact k2
          · have hst := HW.out.2
            have hll := HL.out
            rw [show n - l.length = (n - (l.length + 1)) + 1 by omega] at hst
            rw [show n - (l ++ [(chkS bs 1 (fun n => rngE 0 ((P : Int) - 1) n) s').1]).length = n - (l.length + 1) by simp]
            exact Stage.chk hst)
        clear HW h0 hz
        generalize (chkS bs 1 (fun n => rngE 0 ((P : Int) - 1) n) s').1 = v at *
        generalize (chkS bs 1 (fun n => rngE 0 ((P : Int) - 1) n) s').2 = s2 at *
        go_wp2_with (first | (go_at_call 53; refine hf.mono ?_; rintro e w1 ⟨rfl, rfl⟩) | (go_at_call 58; refine hnum.mono ?_; rintro e w2 ⟨rfl, ho⟩; obtain ⟨a', c', w3, hap, s'', hI⟩ := HP.out w2 ho; replace hap := hd hap) | (at_builtin; refine wpList_append_run rfl _ _ _ rfl _ _ _ _ rfl rfl hap.out ?_; clear hap))
        go_roundg (gk - 1)
        case rel => exact ⟨l ++ [v], len + 1, a', c', s'', rfl, by omega, hd (by rw [← HL.out]; simp), hI⟩
        case measure => omega
      · have hf := failed_any HW.out.1.out.1 true (by simp [hz])
        have HE : Hid (∃ l', Ending.returned (.slice a1 len c1) = .returned (.slice a1 (List.length l') c1) ∧ tabOut w r a cap bs P p a1 c1 l' wr) := hd (by
          refine ⟨l, by rw [HL.out], s', HW.out.1, ?_, by have := HL.out; omega⟩
          exact .inr ⟨hz, HW.out.2.bad hz⟩)
        clear HW HL h0 hz
        go_wp2_with (go_at_call 53; refine hf.mono ?_; rintro e w1 ⟨rfl, rfl⟩)
        go_ret
        obtain ⟨l', h1, h2⟩ := HE.out
        exact ⟨a1, c1, l', h1, h2⟩
end
end Go.Proofs.YtmjokinagbpihaaDoor
