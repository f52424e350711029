/- CodeApart. -/
import Derived.Test.YtngihjmhedkanaaDoorW18
namespace Go.Proofs.YtngihjmhedkanaaDoor
open Go.RowKit

theorem cut300 (n : Nat) : (if (300 : Int) < (n : Int) then (300 : Int) else (n : Int)) = ((min 300 n : Nat) : Int) := by split <;> omega

/-- What was found wrong so far. -/
def Found (n k : Int) (L : List Ins) (i : Nat) (E A : Int) : Prop :=
  (E = 0 ∧ A = 0 ∧ ∀ j, j < i → (wrong (L.getD j default) n k).1 = 0) ∨ (E ≠ 0 ∧ firstE n k L 0 = (E, A))

theorem Found.skip {n k : Int} {L : List Ins} {i : Nat} {E A : Int} (h : Found n k L i E A) (hw : (wrong (L.getD i default) n k).1 = 0) : Found n k L (i + 1) E A := by
  rcases h with ⟨h1, h2, h3⟩ | h
  · exact .inl ⟨h1, h2, fun j hj => by
      by_cases e : j = i
      · rw [e]; exact hw
      · exact h3 j (by omega)⟩
  · exact .inr h
theorem Found.more {n k : Int} {L : List Ins} {i : Nat} {E A : Int} (h : Found n k L i E A) (hE : E ≠ 0) : Found n k L (i + 1) E A := by
  rcases h with ⟨h1, _⟩ | h
  · exact absurd h1 hE
  · exact .inr h
theorem Found.new {n k : Int} {L : List Ins} {i : Nat} {A : Int} (h : Found n k L i 0 A) (hi : i < L.length) (hw : (wrong (L.getD i default) n k).1 ≠ 0) : Found n k L (i + 1) (wrong (L.getD i default) n k).1 (i : Int) := by
  rcases h with ⟨_, _, h3⟩ | ⟨h, _⟩
  · refine .inr ⟨hw, ?_⟩
    rw [firstE_at n k L 0 i hi h3 hw, Int.zero_add]
  · exact absurd rfl h
theorem Found.all {n k : Int} {L : List Ins} {E A : Int} (h : Found n k L L.length E A) : firstE n k L 0 = (E, A) := by
  rcases h with ⟨rfl, rfl, h3⟩ | h
  · exact firstE_none n k L 0 h3
  · exact h.2

set_option maxRecDepth 100000 in
set_option maxHeartbeats 8000000 in
theorem codeApart_walk (a : Option Addr) (cap : Nat) (l : List Ins) (k : Int) (w : World) (hP : Prg w a l) (hlc : l.length ≤ cap) (hk1 : -9223372036854775808 ≤ k) (hF : Fld w) :
    Calls Tryd.prog 8 #[.slice a l.length cap, .int .i64 k] w fun e w' => e = .returned (.bool true) ∧ Below w.heap.size w w' := by
  have haw := awake_any w hF
  have HF : Hid (Fld w) := hF
  obtain ⟨L, hLd⟩ : ∃ L, Hid (L = l.take 300) := ⟨_, rfl⟩
  have hLl : L.length = min 300 l.length := by rw [hLd.out, List.length_take]
  have HP : Hid (Prg w a L) := hd (by rw [hLd.out]; exact hP.take _)
  have e1 := cut300 l.length
  rw [← hLl] at e1
  have q1 : L.length ≤ 300 := by omega
  have q2 : L.length ≤ cap := by omega
  have q3 : L.length ≤ l.length := by omega
  clear hF hP hLl hLd
  go_enter Tryd.func8, Tryd.ntmps8
  go_wp2_with fail
  refine haw.mono ?_
  rintro e w1 ⟨rfl, b1⟩
  clear haw
  go_wp2_with fail
  clear e1 q2 q3 hlc
  go_loopw [5, 6, 7, 8, 9, 24] (fun v5 v6 _ _ _ v24 wr => ∃ (i : Nat) (E A : Int), v24 = .int .i64 i ∧ i ≤ L.length ∧ v5 = .int .i64 E ∧ v6 = .int .i64 A ∧ Hid (Found L.length k L i E A) ∧ Below w.heap.size w wr) (fun _ _ _ _ _ v24 _ => L.length - (intOf v24).toNat)
  case atStart => exact ⟨0, 0, 0, rfl, Nat.zero_le _, rfl, rfl, hd (.inl ⟨rfl, rfl, fun j hj => absurd hj (Nat.not_lt_zero j)⟩), b1⟩
  case round =>
    obtain ⟨i, E, A, rfl, hi, rfl, rfl, hfo, hbr⟩ := hrel
    clear b1
    by_cases hlt : i < L.length
    · have hlt' : (i : Int) < (L.length : Int) := by omega
      obtain ⟨b, off, rfl, hx⟩ := HP.out i hlt
      have hx := hx.kept hbr
      have hck : ∀ n' k' W, Below w.heap.size w W → Calls Tryd.prog 12 #[insV (L.getD i default), .int .i64 n', .int .i64 k'] W fun e w' => e = .returned (.int .i64 (wrong (L.getD i default) n' k').1) ∧ Below W.heap.size W w' := fun n' k' W hb => check_any (L.getD i default) n' k' W (HF.out.kept hb)
      obtain ⟨k0, k1, k2, k3, k4⟩ := hx
      have hskip : Hid ((wrong (L.getD i default) L.length k).1 = 0 → Found L.length k L (i + 1) E A) := hd (fun h => hfo.out.skip h)
      have hmore : Hid (E ≠ 0 → Found L.length k L (i + 1) E A) := hd (fun h => hfo.out.more h)
      have hnew : Hid (E = 0 → (wrong (L.getD i default) L.length k).1 ≠ 0 → Found L.length k L (i + 1) (wrong (L.getD i default) L.length k).1 (i : Int)) := hd (fun h hw => by
        subst h
        exact hfo.out.new hlt hw)
      have hwm : Hid (∀ n' k', (wrong (L.getD i default) L.length k).1 = 0 → (L.length : Int) ≤ n' → k ≤ k' → (wrong (L.getD i default) n' k').1 = 0) := hd (fun n' k' h h1 h2 => wrong_more h h1 h2)
      clear HP hfo
      generalize L.getD i default = x at *
      have hba := hbr.alloc hbr.size (.cells #[.int .i64 x.op, .int .i64 x.a, .int .i64 x.b, .int .i64 x.c, .int .i64 x.imm] 25)
      have h1 := hck L.length k _ hba
      by_cases hw : (wrong x L.length k).1 = 0
      · rw [hw] at h1
        have hn1 := hwm.out (L.length + 1) k hw (by omega) (by omega)
        have hn2 := hwm.out L.length (k + 1) hw (by omega) (by omega)
        unfold insV at h1 hck
        go_wp2_with fail
        refine h1.mono ?_
        rintro e w2 ⟨rfl, b2⟩
        have bw2 := hba.trans (b2.mono hba.size)
        have y0 : w2.cell? ⟨wr.heap.size, 0, none⟩ = some (.int .i64 x.op) := (b2.cell (by simp)).trans (by simp)
        have y1 : w2.cell? ⟨wr.heap.size, 1, none⟩ = some (.int .i64 x.a) := (b2.cell (by simp)).trans (by simp)
        have y2 : w2.cell? ⟨wr.heap.size, 2, none⟩ = some (.int .i64 x.b) := (b2.cell (by simp)).trans (by simp)
        have y3 : w2.cell? ⟨wr.heap.size, 3, none⟩ = some (.int .i64 x.c) := (b2.cell (by simp)).trans (by simp)
        have y4 : w2.cell? ⟨wr.heap.size, 4, none⟩ = some (.int .i64 x.imm) := (b2.cell (by simp)).trans (by simp)
        have h3 := hck (L.length + 1) k _ bw2
        rw [hn1] at h3
        clear h1 b2 hba k0 k1 k2 k3 k4
        go_wp2_with fail
        refine h3.mono ?_
        rintro e w3 ⟨rfl, b3⟩
        have bw3 := bw2.trans (b3.mono bw2.size)
        by_cases hk8 : k < 8
        · have z0 := (b3.cell (World.block_lt_of_cell? w2 _ y0)).trans y0
          have z1 := (b3.cell (World.block_lt_of_cell? w2 _ y1)).trans y1
          have z2 := (b3.cell (World.block_lt_of_cell? w2 _ y2)).trans y2
          have z3 := (b3.cell (World.block_lt_of_cell? w2 _ y3)).trans y3
          have z4 := (b3.cell (World.block_lt_of_cell? w2 _ y4)).trans y4
          have h4 := hck L.length (k + 1) _ bw3
          rw [hn2] at h4
          clear h3 b3 y0 y1 y2 y3 y4 bw2
          go_wp2_with fail
          refine h4.mono ?_
          rintro e w4 ⟨rfl, b4⟩
          have bw4 := bw3.trans (b4.mono bw3.size)
          clear h4 b4 z0 z1 z2 z3 z4 bw3
          go_wp2_with fail
          go_roundw
          case rel => exact ⟨i + 1, E, A, by go_num, by omega, rfl, rfl, hd (hskip.out hw), bw4⟩
          case measure => simp [intOf]; omega
        · have d8 : decide (k < 8) = false := by simpa using hk8
          clear h3 b3 y0 y1 y2 y3 y4 bw2
          go_wp2_with fail
          go_roundw
          case rel => exact ⟨i + 1, E, A, by go_num, by omega, rfl, rfl, hd (hskip.out hw), bw3⟩
          case measure => simp [intOf]; omega
      · generalize (wrong x L.length k).1 = V at *
        have dV : (V == 0) = false := by simpa using hw
        unfold insV at h1
        go_wp2_with fail
        refine h1.mono ?_
        rintro e w2 ⟨rfl, b2⟩
        have bw2 := hba.trans (b2.mono hba.size)
        clear h1 b2 hba k0 k1 k2 k3 k4 hck
        by_cases hE : E = 0
        · have hf := hnew.out hE hw
          subst hE
          go_wp2_with fail
          go_roundw
          case rel => exact ⟨i + 1, V, i, by go_num, by omega, rfl, rfl, hd hf, bw2⟩
          case measure => simp [intOf]; omega
        · have dE : (E == 0) = false := by simpa using hE
          go_wp2_with fail
          go_roundw
          case rel => exact ⟨i + 1, E, A, by go_num, by omega, rfl, rfl, hd (hmore.out hE), bw2⟩
          case measure => simp [intOf]; omega
    · have ei : i = L.length := by omega
      have hltd : decide ((i : Int) < (L.length : Int)) = false := by simp; omega
      have hall : firstE L.length k L 0 = (E, A) := (show Found L.length k L L.length E A by have h := hfo.out; rw [ei] at h; exact h).all
      have hmay := may_any a L.length L k wr (HP.out.kept hbr) (HF.out.kept hbr)
      by_cases h1 : k < 0
      · rw [show mayL L k = (1, 0) by unfold mayL; rw [if_pos (by omega)]] at hmay
        clear hall hfo HP HF
        go_wp2_with fail
        refine hmay.mono ?_
        rintro e w2 ⟨rfl, b2⟩
        go_wp2_with fail
        go_ret
        exact ⟨rfl, hbr.trans (b2.mono hbr.size)⟩
      · have d1 : decide (k < 0) = false := by simpa using h1
        by_cases h2 : 8 < k
        · rw [show mayL L k = (1, 0) by unfold mayL; rw [if_pos (by omega)]] at hmay
          clear hall hfo HP HF
          go_wp2_with fail
          refine hmay.mono ?_
          rintro e w2 ⟨rfl, b2⟩
          go_wp2_with fail
          go_ret
          exact ⟨rfl, hbr.trans (b2.mono hbr.size)⟩
        · have d2 : decide (8 < k) = false := by simpa using h2
          by_cases h3 : 256 < L.length
          · rw [show mayL L k = (3, 256) by unfold mayL; rw [if_neg (by omega), if_pos h3]] at hmay
            have d3 : (256 : Int) < (L.length : Int) := by omega
            clear hall hfo HP HF
            go_wp2_with fail
            refine hmay.mono ?_
            rintro e w2 ⟨rfl, b2⟩
            go_wp2_with fail
            go_ret
            exact ⟨rfl, hbr.trans (b2.mono hbr.size)⟩
          · rw [show mayL L k = (E, A) by unfold mayL; rw [if_neg (by omega), if_neg h3]; exact hall] at hmay
            have d3 : decide ((256 : Int) < (L.length : Int)) = false := by simp; omega
            by_cases hE : E = 0
            · subst hE
              have hA0 : A = 0 := by
                rcases hfo.out with ⟨_, h, _⟩ | ⟨h, _⟩
                · exact h
                · exact absurd rfl h
              subst hA0
              clear hall hfo HP HF
              go_wp2_with fail
              refine hmay.mono ?_
              rintro e w2 ⟨rfl, b2⟩
              go_wp2_with fail
              go_ret
              exact ⟨rfl, hbr.trans (b2.mono hbr.size)⟩
            · have dE : (E == 0) = false := by simpa using hE
              clear hall hfo HP HF
              go_wp2_with fail
              refine hmay.mono ?_
              rintro e w2 ⟨rfl, b2⟩
              go_wp2_with fail
              go_ret
              refine ⟨?_, hbr.trans (b2.mono hbr.size)⟩
              show Ending.returned (.bool (E != 0)) = _
              rw [bne, dE]
              rfl
end Go.Proofs.YtngihjmhedkanaaDoor
