/- A program read from its bytes. -/
import Derived.Test.YtngihjmhedkanabDoorW12
namespace Go.Proofs.YtngihjmhedkanabDoor
open Go.RowKit

theorem info_ins : (Tryd.prog.info? 27).map (fun i => (i.zero, i.size, i.bytes)) = some (some (.agg #[.int .i64 0, .int .i64 0, .int .i64 0, .int .i64 0, .int .i64 0]), 5, 40) := by kernel_rfl

theorem decR_at {bs : List Nat} {n i : Nat} (hn : bs.length = 12 * n) (h256 : n ≤ 256) (hi : i < n) (hall : ∀ j, j < i → (wrong (getI bs (12 * j)) n 8).1 = 0) (hw : (wrong (getI bs (12 * i)) n 8).1 ≠ 0) :
    decR bs = ((wrong (getI bs (12 * i)) n 8).1, 12 * (i : Int) + (wrong (getI bs (12 * i)) n 8).2) := by
  unfold decR
  rw [if_neg (by omega), if_neg (by omega), show bs.length / 12 = n by omega, decE_at bs n n 0 i hi (fun j hj => by rw [Nat.zero_add]; exact hall j hj) (by rw [Nat.zero_add]; exact hw), Nat.zero_add]
theorem decR_none {bs : List Nat} {n : Nat} (hn : bs.length = 12 * n) (h256 : n ≤ 256) (hall : ∀ j, j < n → (wrong (getI bs (12 * j)) n 8).1 = 0) : decR bs = (0, 0) := by
  unfold decR
  rw [if_neg (by omega), if_neg (by omega), show bs.length / 12 = n by omega, decE_none bs n n 0 (fun j hj => by rw [Nat.zero_add]; exact hall j hj)]

theorem decL_snoc (bs : List Nat) (i : Nat) : decL bs (i + 1) = decL bs i ++ [getI bs (12 * i)] := by simp [decL, List.range_succ]

/-- What Decode of the bytes leaves. -/
def DecPost (w : World) (bs : List Nat) (e : Ending) (w' : World) : Prop :=
  ((decR bs).1 = 0 ∧ ∃ g cap', e = .returned (.tuple #[.slice (some ⟨g, 0, none⟩) (bs.length / 12) cap', .int .i64 0, .int .i64 0]) ∧ w'.ownsRow w.heap.size 27 5 (.slice (some ⟨g, 0, none⟩) (bs.length / 12) cap') (bs.length / 12) (pCells (decL bs (bs.length / 12))) ∧ Below w.heap.size w w') ∨
  ((decR bs).1 ≠ 0 ∧ e = .returned (.tuple #[.slice none 0 0, .int .i64 (decR bs).1, .int .i64 (decR bs).2]) ∧ Below w.heap.size w w')

set_option maxRecDepth 100000 in
set_option maxHeartbeats 4000000 in
theorem rdecode_in (a : Option Addr) (cap n : Nat) (bs : List Nat) (w : World) (hB : Byt w a bs) (hb : ∀ i, bs.getD i 0 < 256) (hcap : bs.length ≤ cap) (hn : bs.length = 12 * n) (h256 : n ≤ 256) :
    Calls Tryd.prog 14 #[.slice a bs.length cap] w (DecPost w bs) := by
  obtain ⟨i0, hi0, hz0, hz1, hz2⟩ := info_parts info_ins
  have HB : Hid (Byt w a bs) := hB
  have Hb : Hid (∀ i, bs.getD i 0 < 256) := hb
  have HN : Hid (bs.length = 12 * n) := hn
  have HN2 : Hid (bs.length = 12 * n) := hn
  obtain ⟨L, hL⟩ : ∃ L, Hid (bs.length = L) := ⟨_, rfl⟩
  have e1 : (L : Int) % 12 = 0 := by have := hL.out; omega
  have e2 : (L : Int) / 12 = (n : Int) := by have := hL.out; omega
  have e3 : decide ((3072 : Int) < (L : Int)) = false := by have := hL.out; simp; omega
  have e4 : L = 12 * n := by have := hL.out; omega
  rw [hL.out] at hcap ⊢
  have HE4 : Hid (L = 12 * n) := e4
  clear hB hb hn e4
  go_enter Tryd.func14, Tryd.ntmps14
  go_wp2_with fail
  go_loopw [6, 7, 8, 9, 10] (fun v6 v7 _ _ _ wr => ∃ i g cp : Nat, v7 = .int .i64 i ∧ i ≤ n ∧ v6 = .slice (some ⟨g, 0, none⟩) i cp ∧ wr.ownsRow w.heap.size 27 5 (.slice (some ⟨g, 0, none⟩) i cp) i (pCells (decL bs i)) ∧ Hid (∀ j, j < i → (wrong (getI bs (12 * j)) n 8).1 = 0) ∧ Below w.heap.size w wr) (fun _ v7 _ _ _ _ => n - (intOf v7).toNat)
  case atStart => exact ⟨0, _, _, rfl, Nat.zero_le _, rfl, own_empty w _ 5, hd (fun j hj => absurd hj (Nat.not_lt_zero j)), (Below.refl _ _).alloc (Nat.le_refl _) _⟩
  case round =>
    obtain ⟨i, g, cp, rfl, hi, rfl, hown, hall, hbr⟩ := hrel
    by_cases hlt : i < n
    · have hlt' : (i : Int) < (n : Int) := by omega
      have hp : 0 < bs.length := by have := HN.out; omega
      obtain ⟨b, off, rfl⟩ := HB.out.form hp
      obtain ⟨F, hF⟩ : ∃ F, Hid (12 * i = F) := ⟨_, rfl⟩
      have eF : (12 : Int) * (i : Int) = (F : Int) := by have := hF.out; omega
      have hFL : F + 12 ≤ L := by have := hF.out; have := HE4.out; omega
      have hget : ∀ W, Below w.heap.size w W → _ := fun W hbW => get_any b (off + F) (L - F) (cap - F) F bs W Hb.out (by omega) (fun r hr => by
        rw [Nat.add_assoc]
        exact (HB.out.kept hbW).at (F + r) (by have := hL.out; omega))
      have hwr : ∀ W, _ := fun W => rfault_any (getI bs F) n 8 W
      have hdl : Hid (decL bs (i + 1) = decL bs i ++ [getI bs F]) := hd (by rw [decL_snoc, hF.out])
      have hsz := hbr.size
      have hFc : F < cap := by omega
      clear HB Hb HN e1 e2 e3
      obtain ⟨x, hx⟩ : ∃ x, Hid (getI bs F = x) := ⟨_, rfl⟩
      simp only [hx.out] at hget hwr hdl
      go_wp2_with fail
      refine (hget _ hbr).mono ?_
      rintro e w1 ⟨rfl, b1⟩
      have bw1 := hbr.trans (b1.mono hbr.size)
      have hs1 := bw1.size
      have hown1 := owns_below hown b1
      clear hown hget b1 hbr
      unfold insV at *
      go_wp2_with fail
      refine (hwr _).mono ?_
      rintro e w2 ⟨rfl, b2⟩
      have bwa := bw1.alloc hs1 (.cells #[.int .i64 x.op, .int .i64 x.a, .int .i64 x.b, .int .i64 x.c, .int .i64 x.imm] 27)
      have bw2 := bwa.trans (b2.mono bwa.size)
      have hs2 := bw2.size
      have hown2 := owns_below (hown1.alloc (.cells #[.int .i64 x.op, .int .i64 x.a, .int .i64 x.b, .int .i64 x.c, .int .i64 x.imm] 27)) b2
      have y0 : w2.cell? ⟨w1.heap.size, 0, none⟩ = some (.int .i64 x.op) := (b2.cell (by simp)).trans (by simp)
      have y1 : w2.cell? ⟨w1.heap.size, 1, none⟩ = some (.int .i64 x.a) := (b2.cell (by simp)).trans (by simp)
      have y2 : w2.cell? ⟨w1.heap.size, 2, none⟩ = some (.int .i64 x.b) := (b2.cell (by simp)).trans (by simp)
      have y3 : w2.cell? ⟨w1.heap.size, 3, none⟩ = some (.int .i64 x.c) := (b2.cell (by simp)).trans (by simp)
      have y4 : w2.cell? ⟨w1.heap.size, 4, none⟩ = some (.int .i64 x.imm) := (b2.cell (by simp)).trans (by simp)
      clear hown1 b2 bwa bw1 hwr
      by_cases hw : (wrong x n 8).1 = 0
      · have hall' : Hid (∀ j, j < i + 1 → (wrong (getI bs (12 * j)) n 8).1 = 0) := hd (fun j hj => by
          by_cases e : j = i
          · rw [e, hF.out, hx.out]; exact hw
          · exact hall.out j (by omega))
        rw [hw]
        clear hw hall
        have HX : Hid (insCells x = [.int .i64 x.op, .int .i64 x.a, .int .i64 x.b, .int .i64 x.c, .int .i64 x.imm]) := hd rfl
        go_wp2_with (at_builtin; (refine wpList_append_lies _ rfl _ _ 22 rfl w.heap.size 27 i0 (.agg #[.int .i64 0, .int .i64 0, .int .i64 0, .int .i64 0, .int .i64 0]) 5 40 Tryd.underlying22 hi0 hz0 hz1 hz2 rfl (by decide) (.slice (some ⟨g, 0, none⟩) i cp) _ _ rfl (hown2.alloc _) ⟨_, 0, none⟩ 1 1 (insCells x) rfl rfl (cells_new [.int .i64 x.op, .int .i64 x.a, .int .i64 x.b, .int .i64 x.c, .int .i64 x.imm] _ (by simp)) (by simp [insCells, Value.oneCell']) (by decide) (by unfold maxLen; omega) (by omega) (by simp; omega) _ rfl ?_); intro g3 cap3 w3 hown3 hgrow3 hlies3 hlt3)
        have hb3 : Below w.heap.size w w3 := (bw2.alloc hs2 _).grown hgrow3 (by simp; omega) (fun j hj => (hown2.lt j hj).1)
        rw [← pCells_snoc, ← hdl.out] at hown3
        clear hgrow3 hlies3 hlt3 hown2 bw2 y0 y1 y2 y3 y4
        go_roundw
        case rel => exact ⟨i + 1, g3, cap3, by go_num, by omega, rfl, hown3, hall', hb3⟩
        case measure => simp [intOf]; omega
      · have hR : Hid (decR bs = ((wrong x n 8).1, (F : Int) + (wrong x n 8).2)) := hd (by
          have := decR_at HN2.out h256 hlt hall.out (by rw [hF.out, hx.out]; exact hw)
          rw [hF.out, hx.out] at this
          rw [this, ← hF.out]; simp)
        have dE : ((wrong x n 8).1 == 0) = false := by simpa using hw
        have hA := wrong_at_lt x n 8
        generalize wrong x n 8 = V at *
        obtain ⟨E, A⟩ := V
        simp only at *
        have hA1 : (F : Int) + A ≤ 9000 := by omega
        clear hall hown2 y0 y1 y2 y3 y4
        go_wp2_with fail
        go_ret3
        refine .inr ⟨by rw [hR.out]; exact hw, by rw [hR.out]; rfl, bw2⟩
    · have ei : i = n := by omega
      have hltd : decide ((i : Int) < (n : Int)) = false := by simp; omega
      have hR := decR_none HN2.out h256 (fun j hj => hall.out j (by omega))
      have HR : Hid (decR bs = (0, 0)) := hR
      clear hall hR
      go_wp2_with fail
      go_ret3
      refine .inl ⟨by rw [HR.out], g, cp, ?_, ?_, hbr⟩
      · rw [show bs.length / 12 = i by have := HN2.out; omega]; rfl
      · rw [show bs.length / 12 = i by have := HN2.out; omega]; exact hown
end Go.Proofs.YtngihjmhedkanabDoor
