/- Bytes there and back, over whole numbers. -/
import Derived.Test.YtmjokinagbpihaaDoorCW5
import Derived.Test.YtmjokinagbpihaaDoorGCa
import Derived.OwnWalk
import Derived.Laws.AppendOwn
import Derived.Deep.AppendLies
namespace Go.Proofs.YtmjokinagbpihaaDoor
open Go.RowKit

theorem pow_step (j : Nat) : 2 ^ (8 * (j + 1)) = 2 ^ (8 * j) * 256 := by rw [Nat.mul_add, Nat.pow_add]

theorem sumB_lt (bs : List Nat) (p : Nat) (hb : ∀ i, bs.getD i 0 < 256) : ∀ m, sumB bs p m < 2 ^ (8 * m)
  | 0 => by simp [sumB]
  | m + 1 => by
    have ih := sumB_lt bs p hb m
    have h1 : bs.getD (p + m) 0 * 2 ^ (8 * m) ≤ 255 * 2 ^ (8 * m) := Nat.mul_le_mul_right _ (by have := hb (p + m); omega)
    rw [sumB, pow_step]
    omega

theorem sumB_byte (bs : List Nat) (p : Nat) (hb : ∀ i, bs.getD i 0 < 256) : ∀ m j, j < m → sumB bs p m / 2 ^ (8 * j) % 256 = bs.getD (p + j) 0
  | 0, j, h => absurd h (Nat.not_lt_zero j)
  | m + 1, j, h => by
    have hl := sumB_lt bs p hb m
    have hbm := hb (p + m)
    rw [sumB]
    by_cases e : j = m
    · subst e
      rw [Nat.add_mul_div_right _ _ (Nat.two_pow_pos _), Nat.div_eq_of_lt hl]
      omega
    · have ih := sumB_byte bs p hb m j (by omega)
      have e2 : 2 ^ (8 * m) = 2 ^ (8 * j) * (256 * 2 ^ (8 * (m - j - 1))) := by
        rw [show (256 : Nat) = 2 ^ 8 by rfl, ← Nat.pow_add, ← Nat.pow_add]
        congr 1
        omega
      rw [e2, show bs.getD (p + m) 0 * (2 ^ (8 * j) * (256 * 2 ^ (8 * (m - j - 1)))) = 256 * (bs.getD (p + m) 0 * 2 ^ (8 * (m - j - 1))) * 2 ^ (8 * j) by
        simp only [Nat.mul_assoc, Nat.mul_comm, Nat.mul_left_comm], Nat.add_mul_div_right _ _ (Nat.two_pow_pos _), Nat.add_mul_mod_self_left]
      exact ih

theorem sumB_of (bs : List Nat) (p u : Nat) : ∀ m, (∀ j, j < m → bs.getD (p + j) 0 = u / 2 ^ (8 * j) % 256) → sumB bs p m = u % 2 ^ (8 * m)
  | 0, _ => by simp [sumB, Nat.mod_one]
  | m + 1, h => by
    rw [sumB, sumB_of bs p u m (fun j hj => h j (by omega)), h m (by omega), pow_step, Nat.mod_mul]
    congr 1
    exact Nat.mul_comm _ _

theorem wrap64_u64 {z : Int} (h1 : -9223372036854775808 ≤ z) (h2 : z ≤ 9223372036854775807) : wrap64 (u64 z : Nat) = z := by
  unfold wrap64 u64; omega
theorem u64_wrap64 {s : Nat} (h : s < 18446744073709551616) : u64 (wrap64 (s : Int)) = s := by
  unfold wrap64 u64; omega

theorem encB_at : ∀ (l : List Ins) (i r : Nat), i < l.length → r < 12 → (encB l).getD (12 * i + r) 0 = (insB (l.getD i default)).getD r 0
  | [], i, _, h, _ => absurd h (Nat.not_lt_zero i)
  | x :: l, 0, r, _, hr => by
    simp only [encB, List.flatMap_cons, Nat.mul_zero, Nat.zero_add, List.getD_eq_getElem?_getD, List.getElem?_cons_zero, Option.getD_some]
    rw [List.getElem?_append_left (by rw [insB_len]; exact hr)]
  | x :: l, i + 1, r, h, hr => by
    have ih := encB_at l i r (by simpa using h) hr
    simp only [encB, List.flatMap_cons, List.getD_eq_getElem?_getD, List.getElem?_cons_succ] at *
    rw [List.getElem?_append_right (by rw [insB_len]; omega), insB_len, show 12 * (i + 1) + r - 12 = 12 * i + r by omega]
    exact ih

theorem insB_imm (x : Ins) (j : Nat) (h : j < 8) : (insB x).getD (4 + j) 0 = byteAt x.imm j := by
  simp only [insB, List.getD_eq_getElem?_getD]
  rw [List.getElem?_append_right (by simp)]
  simp [h]

theorem b8_small {z : Int} (h1 : 0 ≤ z) (h2 : z < 256) : (b8 z : Int) = z := by unfold b8; omega
theorem b8_nat {n : Nat} (h2 : n < 256) : b8 (n : Int) = n := by unfold b8; omega

def Fit (x : Ins) : Prop := -9223372036854775808 ≤ x.imm ∧ x.imm ≤ 9223372036854775807

theorem get_enc (l : List Ins) (i : Nat) (hi : i < l.length) (n k : Int) (hw : (wrong (l.getD i default) n k).1 = 0) (hf : Fit (l.getD i default)) : getI (encB l) (12 * i) = l.getD i default := by
  obtain ⟨o1, o2, ha, hb, hc, _⟩ := wrong_ok hw
  have ra := regE_ok ha
  have rb := regE_ok hb
  have rc := regE_ok hc
  have e0 := encB_at l i 0 hi (by omega)
  have e1 := encB_at l i 1 hi (by omega)
  have e2 := encB_at l i 2 hi (by omega)
  have e3 := encB_at l i 3 hi (by omega)
  have es : sumB (encB l) (12 * i + 4) 8 = u64 (l.getD i default).imm := by
    rw [sumB_of (encB l) (12 * i + 4) (u64 (l.getD i default).imm) 8 (fun j hj => by
      rw [Nat.add_assoc, encB_at l i (4 + j) hi (by omega), insB_imm _ j hj]; rfl)]
    exact Nat.mod_eq_of_lt (u64_lt _)
  unfold getI
  rw [Nat.add_zero] at e0
  rw [e0, e1, e2, e3, es, wrap64_u64 hf.1 hf.2]
  generalize l.getD i default = x at *
  cases x
  simp only [insB, List.cons_append, List.getD_cons_zero, List.getD_cons_succ, Ins.mk.injEq, and_true] at *
  exact ⟨b8_small o1 (by omega), b8_small ra.1 (by omega), b8_small rb.1 (by omega), b8_small rc.1 (by omega)⟩

theorem insB_get (bs : List Nat) (p : Nat) (hb : ∀ i, bs.getD i 0 < 256) (r : Nat) (hr : r < 12) : (insB (getI bs p)).getD r 0 = bs.getD (p + r) 0 := by
  by_cases h4 : r < 4
  · have : r = 0 ∨ r = 1 ∨ r = 2 ∨ r = 3 := by omega
    rcases this with rfl | rfl | rfl | rfl <;> simp only [insB, getI, List.cons_append, List.getD_cons_zero, List.getD_cons_succ, Nat.add_zero] <;> exact b8_nat (hb _)
  · obtain ⟨j, rfl⟩ : ∃ j, r = 4 + j := ⟨r - 4, by omega⟩
    rw [insB_imm _ j (by omega)]
    have hs : sumB bs (p + 4) 8 < 18446744073709551616 := sumB_lt bs (p + 4) hb 8
    simp only [byteAt, getI]
    rw [u64_wrap64 hs, sumB_byte bs (p + 4) hb 8 j (by omega), Nat.add_assoc]

theorem enc_dec (bs : List Nat) (n : Nat) (hb : ∀ i, bs.getD i 0 < 256) (hn : bs.length = 12 * n) : encB (decL bs n) = bs := by
  have hlen : (encB (decL bs n)).length = bs.length := by rw [encB_len, decL_len, hn]
  refine List.ext_getElem? fun q => ?_
  by_cases hq : q < bs.length
  · have h1 := encB_at (decL bs n) (q / 12) (q % 12) (by rw [decL_len]; omega) (by omega)
    rw [Nat.div_add_mod, decL_at bs n (q / 12) (by omega), insB_get bs _ hb _ (by omega), Nat.div_add_mod] at h1
    rw [List.getD_eq_getElem?_getD, List.getD_eq_getElem?_getD] at h1
    rw [List.getElem?_eq_getElem hq] at h1 ⊢
    rw [List.getElem?_eq_getElem (by omega)] at h1 ⊢
    simpa using h1
  · rw [List.getElem?_eq_none (by omega), List.getElem?_eq_none (by omega)]

/-- What the bytes of a program that may be are read as. -/
theorem dec_enc (l : List Ins) (hm : (mayL l 8).1 = 0) (hf : ∀ x ∈ l, Fit x) : decR (encB l) = (0, 0) ∧ decL (encB l) l.length = l := by
  unfold mayL at hm
  rw [if_neg (by omega)] at hm
  split at hm
  · simp at hm
  · next h256 =>
    have hz := firstE_zero _ _ l 0 hm
    have hg : ∀ j, j < l.length → getI (encB l) (12 * j) = l.getD j default := fun j hj => get_enc l j hj _ _ (hz j hj) (hf _ (by
      rw [List.getD_eq_getElem?_getD, List.getElem?_eq_getElem hj]; exact List.getElem_mem hj))
    have hlen := encB_len l
    refine ⟨?_, ?_⟩
    · unfold decR
      rw [if_neg (by omega), if_neg (by omega), hlen, Nat.mul_div_cancel_left _ (by decide)]
      exact decE_none _ _ _ _ (fun j hj => by rw [Nat.zero_add, hg j hj]; exact hz j hj)
    · refine List.ext_getElem? fun q => ?_
      by_cases hq : q < l.length
      · have := decL_at (encB l) l.length q hq
        rw [hg q hq, List.getD_eq_getElem?_getD, List.getD_eq_getElem?_getD] at this
        rw [List.getElem?_eq_getElem hq] at this ⊢
        rw [List.getElem?_eq_getElem (by rw [decL_len]; exact hq)] at this ⊢
        simpa using this
      · rw [List.getElem?_eq_none (l := decL _ _) (by rw [decL_len]; omega), List.getElem?_eq_none (by omega)]

theorem decR_ok {bs : List Nat} (h : (decR bs).1 = 0) : bs.length ≤ 3072 ∧ bs.length = 12 * (bs.length / 12) ∧ ∀ j, j < bs.length / 12 → (wrong (getI bs (12 * j)) (bs.length / 12 : Nat) 8).1 = 0 := by
  unfold decR at h
  split at h
  · simp at h
  · split at h
    · simp at h
    · refine ⟨by omega, by omega, fun j hj => ?_⟩
      have := decE_zero bs _ _ 0 h j hj
      rwa [Nat.zero_add] at this

theorem may_dec (bs : List Nat) (h : (decR bs).1 = 0) : mayL (decL bs (bs.length / 12)) 8 = (0, 0) := by
  obtain ⟨h1, h2, h3⟩ := decR_ok h
  unfold mayL
  rw [if_neg (by omega), decL_len, if_neg (by omega)]
  exact firstE_none _ _ _ _ (fun j hj => by
    rw [decL_len] at hj
    rw [decL_at _ _ _ hj]
    exact h3 j hj)

theorem decE_place (bs : List Nat) (n : Nat) : ∀ (m s : Nat), 0 ≤ (decE bs n s m).2 ∧ ((decE bs n s m).1 ≠ 0 → (decE bs n s m).2 ≤ 12 * (s + m : Nat)) ∧ ((decE bs n s m).1 = 0 → (decE bs n s m).2 = 0)
  | 0, s => by simp [decE]
  | m + 1, s => by
    have hx := wrong_at_lt (getI bs (12 * s)) n 8
    have ih := decE_place bs n m (s + 1)
    unfold decE
    split
    · next h => exact ⟨by simp only; omega, fun _ => by simp only; omega, fun h' => absurd h' h⟩
    · refine ⟨ih.1, fun h => ?_, ih.2.2⟩
      have := ih.2.1 h
      omega

theorem decR_place (bs : List Nat) : 0 ≤ (decR bs).2 ∧ (decR bs).2 ≤ bs.length ∧ ((decR bs).1 = 0 → (decR bs).2 = 0) := by
  unfold decR
  split
  · exact ⟨by simp, by simp only; omega, fun h => by simp at h⟩
  · split
    · exact ⟨by simp, by simp, fun h => by simp at h⟩
    · have h := decE_place bs (bs.length / 12) (bs.length / 12) 0
      refine ⟨h.1, ?_, h.2.2⟩
      by_cases h0 : (decE bs (bs.length / 12) 0 (bs.length / 12)).1 = 0
      · rw [h.2.2 h0]; omega
      · have := h.2.1 h0; omega

theorem firstE_place (n k : Int) : ∀ (l : List Ins) (s : Int), ((firstE n k l s).1 = 0 ∧ (firstE n k l s).2 = 0) ∨ (s ≤ (firstE n k l s).2 ∧ (firstE n k l s).2 < s + l.length)
  | [], s => .inl ⟨rfl, rfl⟩
  | x :: r, s => by
    unfold firstE
    split
    · right; simp only [List.length_cons]; omega
    · rcases firstE_place n k r (s + 1) with h | h
      · exact .inl h
      · right; simp only [List.length_cons]; omega

theorem mayL_place (l : List Ins) (k : Int) : 0 ≤ (mayL l k).2 ∧ (mayL l k).2 ≤ l.length ∧ ((mayL l k).1 = 0 → (mayL l k).2 = 0) := by
  unfold mayL
  split
  · exact ⟨by simp, by simp, fun h => by simp at h⟩
  · split
    · exact ⟨by simp, by simp only; omega, fun h => by simp at h⟩
    · rcases firstE_place l.length k l 0 with h | h
      · rw [h.2]; exact ⟨by omega, by omega, fun _ => rfl⟩
      · refine ⟨by omega, by omega, fun h0 => ?_⟩
        have hz := firstE_none l.length k l 0 (firstE_zero _ _ l 0 h0)
        rw [hz]

/-- What may stand may in a longer program, and with more locks. -/
theorem wrong_more {x : Ins} {n k n' k' : Int} (h : (wrong x n k).1 = 0) (hn : n ≤ n') (hk : k ≤ k') : (wrong x n' k').1 = 0 := by
  obtain ⟨h1, h2, h3, h4, h5, h6⟩ := wrong_ok h
  have h7 : immE x.op x.imm n' k' = 0 := by
    unfold immE at *
    split
    · next hi =>
      rw [if_pos hi] at h6
      split
      · next ho =>
        rw [if_pos ho] at h6
        split at h6
        · rw [if_pos (by omega)]
        · simp at h6
      · next ho =>
        rw [if_neg ho] at h6
        split
        · next hq =>
          rw [if_pos hq] at h6
          split at h6
          · rw [if_pos (by omega)]
          · simp at h6
        · rfl
    · next hi =>
      rw [if_neg hi] at h6
      exact h6
  unfold wrong
  rw [if_neg (by omega), if_neg (by rw [h3]; simp), if_neg (by rw [h4]; simp), if_neg (by rw [h5]; simp), if_neg (by rw [h7]; simp)]
end Go.Proofs.YtmjokinagbpihaaDoor

/- Programs in memory; May. -/
namespace Go.Proofs.YtmjokinagbpihaaDoor
open Go.RowKit

theorem below_drewN {B : Nat} {a w : World} (h : Below B a w) (n : Nat) : Below B a (w.drewN n) := ⟨h.os, h.tape, h.output, h.size, h.block⟩

/-- The instruction x lies at the cells from an address on. -/
structure InsAt (w : World) (b o : Nat) (x : Ins) : Prop where
  c0 : w.cell? ⟨b, o, none⟩ = some (.int .i64 x.op)
  c1 : w.cell? ⟨b, o + 1, none⟩ = some (.int .i64 x.a)
  c2 : w.cell? ⟨b, o + 2, none⟩ = some (.int .i64 x.b)
  c3 : w.cell? ⟨b, o + 3, none⟩ = some (.int .i64 x.c)
  c4 : w.cell? ⟨b, o + 4, none⟩ = some (.int .i64 x.imm)

theorem InsAt.kept {w w' : World} {b o : Nat} {x : Ins} (h : InsAt w b o x) (hb : Below w.heap.size w w') : InsAt w' b o x where
  c0 := (hb.cell (World.block_lt_of_cell? w _ h.c0)).trans h.c0
  c1 := (hb.cell (World.block_lt_of_cell? w _ h.c1)).trans h.c1
  c2 := (hb.cell (World.block_lt_of_cell? w _ h.c2)).trans h.c2
  c3 := (hb.cell (World.block_lt_of_cell? w _ h.c3)).trans h.c3
  c4 := (hb.cell (World.block_lt_of_cell? w _ h.c4)).trans h.c4

/-- The program l lies at the address a. -/
def Prg (w : World) (a : Option Addr) (l : List Ins) : Prop := ∀ i, i < l.length → ∃ b off, a = some ⟨b, off, none⟩ ∧ InsAt w b (off + i * 5) (l.getD i default)

theorem Prg.kept {w w' : World} {a : Option Addr} {l : List Ins} (h : Prg w a l) (hb : Below w.heap.size w w') : Prg w' a l := fun i hi => by
  obtain ⟨b, off, e, hc⟩ := h i hi
  exact ⟨b, off, e, hc.kept hb⟩

set_option maxRecDepth 100000 in
set_option maxHeartbeats 2000000 in
theorem may_any (a : Option Addr) (cap : Nat) (l : List Ins) (k : Int) (w : World) (hP : Prg w a l) (hF : Fld w) :
    Calls Tryd.prog 50 #[.slice a l.length cap, .int .i64 k] w fun e w' => e = .returned (.tuple #[.int .i64 (mayL l k).1, .int .i64 (mayL l k).2]) ∧ Below w.heap.size w w' := by
  by_cases h1 : k < 0
  · have e : mayL l k = (1, 0) := by unfold mayL; rw [if_pos (by omega)]
    rw [e]
    clear e hP hF
    go_enter Tryd.func50, Tryd.ntmps50
    go_wp2
    go_ret2
    exact ⟨rfl, Below.refl _ _⟩
  · have d1 : decide (k < 0) = false := by simpa using h1
    by_cases h2 : 8 < k
    · have e : mayL l k = (1, 0) := by unfold mayL; rw [if_pos (by omega)]
      rw [e]
      clear e hP hF h1
      go_enter Tryd.func50, Tryd.ntmps50
      go_wp2
      go_ret2
      exact ⟨rfl, Below.refl _ _⟩
    · have d2 : decide (8 < k) = false := by simpa using h2
      by_cases h3 : 256 < l.length
      · have e : mayL l k = (3, 256) := by unfold mayL; rw [if_neg (by omega), if_pos h3]
        rw [e]
        have d3 : (256 : Int) < (l.length : Int) := by omega
        clear e hP hF h1 h2
        go_enter Tryd.func50, Tryd.ntmps50
        go_wp2
        go_ret2
        exact ⟨rfl, Below.refl _ _⟩
      · have e : mayL l k = firstE l.length k l 0 := by unfold mayL; rw [if_neg (by omega), if_neg h3]
        rw [e]
        have hlen : l.length ≤ 256 := by omega
        have d3 : decide ((256 : Int) < (l.length : Int)) = false := by simp; omega
        obtain ⟨R, hR⟩ : ∃ R, Hid (firstE l.length k l 0 = R) := ⟨_, rfl⟩
        rw [hR.out]
        have HP : Hid (Prg w a l) := hP
        have HF : Hid (Fld w) := hF
        clear e hP hF h1 h2 h3
        go_enter Tryd.func50, Tryd.ntmps50
        go_wp2
        go_loopw [6, 7, 8, 20] (fun _ _ _ v20 wr => ∃ i : Nat, v20 = .int .i64 i ∧ i ≤ l.length ∧ Hid (∀ j, j < i → (wrong (l.getD j default) l.length k).1 = 0) ∧ Below w.heap.size w wr) (fun _ _ _ v20 _ => l.length - (intOf v20).toNat)
        case atStart => exact ⟨0, rfl, Nat.zero_le _, hd (fun j hj => absurd hj (Nat.not_lt_zero j)), Below.refl _ _⟩
        case round =>
          obtain ⟨i, rfl, hi, hall, hbr⟩ := hrel
          by_cases hlt : i < l.length
          · have hlt' : (i : Int) < (l.length : Int) := by omega
            obtain ⟨b, off, rfl, hx⟩ := HP.out i hlt
            have hx := hx.kept hbr
            have hck : ∀ W, Below w.heap.size w W → _ := fun W hb => check_any (l.getD i default) l.length k W (HF.out.kept hb)
            obtain ⟨k0, k1, k2, k3, k4⟩ := hx
            by_cases hw : (wrong (l.getD i default) l.length k).1 = 0
            · have hall' : Hid (∀ j, j < i + 1 → (wrong (l.getD j default) l.length k).1 = 0) := hd (fun j hj => by
                by_cases e : j = i
                · rw [e]; exact hw
                · exact hall.out j (by omega))
              rw [hw] at hck
              clear hw hall HP
              generalize l.getD i default = x at *
              unfold insV at hck
              go_wp2_with fail
              refine (hck _ ?_).mono ?_
              · exact hbr.alloc hbr.size _
              rintro e w1 ⟨rfl, b1⟩
              have hba := hbr.alloc hbr.size (.cells #[.int .i64 x.op, .int .i64 x.a, .int .i64 x.b, .int .i64 x.c, .int .i64 x.imm] 71)
              replace b1 := hba.trans (b1.mono hba.size)
              go_wp2_with fail
              go_roundw
              case rel => exact ⟨i + 1, by go_num, by omega, hall', b1⟩
              case measure => simp [intOf]; omega
            · have hfin : Hid (R = ((wrong (l.getD i default) l.length k).1, (i : Int))) := hd (by
                rw [← hR.out, firstE_at _ _ l 0 i hlt hall.out hw, Int.zero_add])
              generalize (wrong (l.getD i default) l.length k).1 = E at *
              have dE : (E == 0) = false := by simpa using hw
              clear hw hall HP hR
              generalize l.getD i default = x at *
              unfold insV at hck
              go_wp2_with fail
              refine (hck _ ?_).mono ?_
              · exact hbr.alloc hbr.size _
              rintro e w1 ⟨rfl, b1⟩
              have hba := hbr.alloc hbr.size (.cells #[.int .i64 x.op, .int .i64 x.a, .int .i64 x.b, .int .i64 x.c, .int .i64 x.imm] 71)
              replace b1 := hba.trans (b1.mono hba.size)
              go_wp2_with fail
              go_ret2
              exact ⟨by rw [hfin.out]; rfl, b1⟩
          · have hltd : decide ((i : Int) < (l.length : Int)) = false := by simp; omega
            have hge : (l.length : Int) ≤ (i : Int) := by omega
            have hfin : Hid (R = (0, 0)) := hd (by rw [← hR.out, firstE_none _ _ l 0 (fun j hj => hall.out j (by omega))])
            clear hall hR HP
            go_wp2
            go_ret2
            exact ⟨by rw [hfin.out]; rfl, hbr⟩
end Go.Proofs.YtmjokinagbpihaaDoor

/- May, by the document's answer. -/
namespace Go.Proofs.YtmjokinagbpihaaDoor
open Go.RowKit

set_option maxRecDepth 100000 in
set_option maxHeartbeats 2000000 in
theorem rmay_any (a : Option Addr) (cap : Nat) (l : List Ins) (k : Int) (w : World) (hP : Prg w a l) :
    Calls Tryd.prog 35 #[.slice a l.length cap, .int .i64 k] w fun e w' => e = .returned (.tuple #[.int .i64 (mayL l k).1, .int .i64 (mayL l k).2]) ∧ Below w.heap.size w w' := by
  by_cases h1 : k < 0
  · have e : mayL l k = (1, 0) := by unfold mayL; rw [if_pos (by omega)]
    rw [e]
    clear e hP
    go_enter Tryd.func35, Tryd.ntmps35
    go_wp2
    go_ret2
    exact ⟨rfl, Below.refl _ _⟩
  · have d1 : decide (k < 0) = false := by simpa using h1
    by_cases h2 : 8 < k
    · have e : mayL l k = (1, 0) := by unfold mayL; rw [if_pos (by omega)]
      rw [e]
      clear e hP h1
      go_enter Tryd.func35, Tryd.ntmps35
      go_wp2
      go_ret2
      exact ⟨rfl, Below.refl _ _⟩
    · have d2 : decide (8 < k) = false := by simpa using h2
      by_cases h3 : 256 < l.length
      · have e : mayL l k = (3, 256) := by unfold mayL; rw [if_neg (by omega), if_pos h3]
        rw [e]
        have d3 : (256 : Int) < (l.length : Int) := by omega
        clear e hP h1 h2
        go_enter Tryd.func35, Tryd.ntmps35
        go_wp2
        go_ret2
        exact ⟨rfl, Below.refl _ _⟩
      · have e : mayL l k = firstE l.length k l 0 := by unfold mayL; rw [if_neg (by omega), if_neg h3]
        rw [e]
        have hlen : l.length ≤ 256 := by omega
        have d3 : decide ((256 : Int) < (l.length : Int)) = false := by simp; omega
        obtain ⟨R, hR⟩ : ∃ R, Hid (firstE l.length k l 0 = R) := ⟨_, rfl⟩
        rw [hR.out]
        have HP : Hid (Prg w a l) := hP
        clear e hP h1 h2 h3
        go_enter Tryd.func35, Tryd.ntmps35
        go_wp2
        go_loopw [6, 7] (fun v6 _ wr => ∃ i : Nat, v6 = .int .i64 i ∧ i ≤ l.length ∧ Hid (∀ j, j < i → (wrong (l.getD j default) l.length k).1 = 0) ∧ Below w.heap.size w wr) (fun v6 _ _ => l.length - (intOf v6).toNat)
        case atStart => exact ⟨0, rfl, Nat.zero_le _, hd (fun j hj => absurd hj (Nat.not_lt_zero j)), Below.refl _ _⟩
        case round =>
          obtain ⟨i, rfl, hi, hall, hbr⟩ := hrel
          by_cases hlt : i < l.length
          · have hlt' : (i : Int) < (l.length : Int) := by omega
            obtain ⟨b, off, rfl, hx⟩ := HP.out i hlt
            have hx := hx.kept hbr
            have hck := rcheck_any (l.getD i default) l.length k
            obtain ⟨k0, k1, k2, k3, k4⟩ := hx
            by_cases hw : (wrong (l.getD i default) l.length k).1 = 0
            · have hall' : Hid (∀ j, j < i + 1 → (wrong (l.getD j default) l.length k).1 = 0) := hd (fun j hj => by
                by_cases e : j = i
                · rw [e]; exact hw
                · exact hall.out j (by omega))
              rw [hw] at hck
              clear hw hall HP
              generalize l.getD i default = x at *
              unfold insV at hck
              go_wp2_with fail
              refine (hck _).mono ?_
              rintro e w1 ⟨rfl, b1⟩
              replace b1 := hbr.trans (b1.mono hbr.size)
              go_wp2_with fail
              go_roundw
              case rel => exact ⟨i + 1, by go_num, by omega, hall', b1⟩
              case measure => simp [intOf]; omega
            · have hfin : Hid (R = ((wrong (l.getD i default) l.length k).1, (i : Int))) := hd (by
                rw [← hR.out, firstE_at _ _ l 0 i hlt hall.out hw, Int.zero_add])
              generalize (wrong (l.getD i default) l.length k).1 = E at *
              have dE : (E == 0) = false := by simpa using hw
              clear hw hall HP hR
              generalize l.getD i default = x at *
              unfold insV at hck
              go_wp2_with fail
              refine (hck _).mono ?_
              rintro e w1 ⟨rfl, b1⟩
              replace b1 := hbr.trans (b1.mono hbr.size)
              go_wp2_with fail
              go_ret2
              exact ⟨by rw [hfin.out]; rfl, b1⟩
          · have hltd : decide ((i : Int) < (l.length : Int)) = false := by simp; omega
            have hge : (l.length : Int) ≤ (i : Int) := by omega
            have hfin : Hid (R = (0, 0)) := hd (by rw [← hR.out, firstE_none _ _ l 0 (fun j hj => hall.out j (by omega))])
            clear hall hR HP
            go_wp2
            go_ret2
            exact ⟨by rw [hfin.out]; rfl, hbr⟩
end Go.Proofs.YtmjokinagbpihaaDoor

/- Bytes of an instruction. -/
namespace Go.Proofs.YtmjokinagbpihaaDoor
open Go.RowKit

theorem info_u8 : (Tryd.prog.info? 5).map (fun i => (i.zero, i.size, i.bytes)) = some (some (.int .u8 0), 1, 1) := by kernel_rfl
theorem info_parts {t : TypeId} {z : Value} {s b : Nat} (h : (Tryd.prog.info? t).map (fun i => (i.zero, i.size, i.bytes)) = some (some z, s, b)) : ∃ i, Tryd.prog.info? t = some i ∧ i.zero = some z ∧ i.size = s ∧ i.bytes = b := by
  cases hh : Tryd.prog.info? t with
  | none => rw [hh] at h; cases h
  | some i => rw [hh] at h; simp at h; exact ⟨i, rfl, h.1, h.2.1, h.2.2⟩

/-- Bytes as cells. -/
def bCells (l : List Nat) : List Value := l.map fun b : Nat => Value.int .u8 (b : Int)
theorem bCells_len (l : List Nat) : (bCells l).length = l.length := by simp [bCells]
theorem bCells_app (l m : List Nat) : bCells l ++ bCells m = bCells (l ++ m) := by simp [bCells]

theorem addr_add (b off j : Nat) : (⟨b, off, none⟩ : Addr).add j = ⟨b, off + j, none⟩ := by
  unfold Addr.add
  split
  · rename_i h; subst h; rfl
  · rfl

theorem cells_new {w : World} (vs : List Value) (t : TypeId) {b : Nat} (hb : w.heap.size = b) : ∀ j u, vs[j]? = some u → (w.alloc (.cells vs.toArray t)).cell? ((⟨b, 0, none⟩ : Addr).add j) = some u := by
  subst hb
  intro j u hj
  have h := heap_alloc_new w (.cells vs.toArray t)
  rw [addr_add, Nat.zero_add, cell_of_row _ _ _ vs.toArray t (0, 0) h]
  simpa using hj

theorem own_form {w : World} {B e z n : Nat} {v : Value} {xs : List Value} (h : w.ownsRow B e z v n xs) (hn : 0 < n) : ∃ g cap, v = .slice (some ⟨g, 0, none⟩) n cap := by
  rcases h.2 with ⟨rfl, hx⟩ | ⟨g, cap, cur, rfl, _⟩
  · omega
  · exact ⟨g, cap, rfl⟩
theorem own_len {w : World} {B e z n m : Nat} {v : Value} {xs : List Value} (hn : n = m) (h : w.ownsRow B e z v n xs) : w.ownsRow B e z v m xs := hn ▸ h

theorem mod_b8 (z : Int) : z % 256 = (b8 z : Int) := by unfold b8; omega
theorem mod_u64 (z : Int) : z % 18446744073709551616 = (u64 z : Int) := by unfold u64; omega

theorem wrap_u64 (z : Int) : IntKind.u64.wrap z = z % 18446744073709551616 := by
  unfold IntKind.wrap
  rw [show IntKind.u64.signed = false from rfl]
  rfl

theorem byte_val {i : Int} {U y j : Nat} (e4 : i % 18446744073709551616 = (U : Int)) (h : y = U / 2 ^ (8 * j) % 256) : IntKind.u64.wrap i / 2 ^ (8 * j) % 256 = (y : Int) := by
  rw [wrap_u64, e4, h]
  clear e4 h
  generalize 8 * j = q
  have h1 : ((2 ^ q : Nat) : Int) = (2 : Int) ^ q := by simp
  rw [← h1]
  rfl

theorem alloc_keeps {w : World} {a : Addr} {v : Value} (o : Obj) (h : w.cell? a = some v) : (w.alloc o).cell? a = some v := by
  rw [World.cell?_alloc_lt _ _ _ (World.block_lt_of_cell? w _ h)]; exact h

theorem own_empty (w : World) (e : TypeId) (s : Nat) : (w.alloc (.cells #[] e)).ownsRow w.heap.size e s (.slice (some ⟨w.heap.size, 0, none⟩) 0 0) 0 [] :=
  ⟨by simp, .inr ⟨w.heap.size, 0, #[], rfl, Nat.le_refl _, heap_alloc_new w _, by simp, by unfold maxLen; omega, by simp, by simp⟩⟩

set_option maxRecDepth 100000 in
set_option maxHeartbeats 2000000 in
theorem put_any (B n : Nat) (g cap : Nat) (bs : List Nat) (x : Ins) (w : World) (hown : w.ownsRow B 5 1 (.slice (some ⟨g, 0, none⟩) n cap) n (bCells bs)) (hB : B ≤ w.heap.size) (hn : n ≤ 1000000) :
    Calls Tryd.prog 39 #[.slice (some ⟨g, 0, none⟩) n cap, insV x] w fun e w' => ∃ g' cap', e = .returned (.slice (some ⟨g', 0, none⟩) (n + 12) cap') ∧ w'.ownsRow B 5 1 (.slice (some ⟨g', 0, none⟩) (n + 12) cap') (n + 12) (bCells (bs ++ insB x)) ∧ Below B w w' := by
  obtain ⟨i0, hi, hz0, hz1, hz2⟩ := info_parts info_u8
  have hins : Hid (insB x = [b8 x.op, b8 x.a, b8 x.b, b8 x.c] ++ (List.range 8).map (byteAt x.imm)) := hd rfl
  have e0 := mod_b8 x.op
  have e1 := mod_b8 x.a
  have e2 := mod_b8 x.b
  have e3 := mod_b8 x.c
  have e4 := mod_u64 x.imm
  have hY : Hid (∀ j, byteAt x.imm j = u64 x.imm / 2 ^ (8 * j) % 256) := hd fun j => rfl
  generalize b8 x.op = p0 at *
  generalize b8 x.a = p1 at *
  generalize b8 x.b = p2 at *
  generalize b8 x.c = p3 at *
  generalize u64 x.imm = U at *
  generalize byteAt x.imm = Y at *
  generalize insB x = X at *
  obtain ⟨o, a, b, c, i⟩ := x
  unfold insV
  simp only at *
  have hlg := hown.lt g rfl
  go_enter Tryd.func39, Tryd.ntmps39
  go_wp2_with (at_builtin; (refine wpList_append_lies _ rfl _ _ 31 rfl B 5 i0 (.int .u8 0) 1 1 Tryd.underlying31 hi hz0 hz1 hz2 rfl (by decide) (.slice (some ⟨g, 0, none⟩) n cap) _ _ rfl ((hown.alloc _).alloc _) ⟨_, 0, none⟩ 4 4 (bCells [p0, p1, p2, p3]) rfl rfl (cells_new [.int .u8 (p0 : Int), .int .u8 (p1 : Int), .int .u8 (p2 : Int), .int .u8 (p3 : Int)] _ (by simp)) (by simp [bCells, Value.oneCell']) (by decide) (by unfold maxLen; omega) (by omega) (by simp; omega) _ rfl ?_); intro g1 cap1 w1 hown1 hgrow1 hlies1 hlt1)
  have hb1 : Below B w w1 := (((Below.refl _ _).alloc hB _).alloc (by simp; omega) _).grown hgrow1 (by simp; omega) (fun j hj => (hown.lt j hj).1)
  have hx4 : w1.cell? ⟨w.heap.size, 4, none⟩ = some (.int .i64 i) := hgrow1.cell (by simp) (fun e => by
    have e' : w.heap.size = g := by simpa [Value.ownBlock] using e
    omega)
  have hne : Hid (g1 ≠ w.heap.size) := hd (by
    rcases hlies1 with h | h
    · have h' : g = g1 := by simpa [Value.ownBlock] using h
      omega
    · simp at h; omega)
  rw [bCells_app] at hown1
  clear hgrow1 hown hlies1 hlg hlt1 e0 e1 e2 e3
  go_loopw [0, 5] (fun v0 v5 wr => ∃ j g cap : Nat, v5 = .int .i64 j ∧ j ≤ 8 ∧ v0 = .slice (some ⟨g, 0, none⟩) (n + 4 + j) cap ∧ wr.ownsRow B 5 1 (.slice (some ⟨g, 0, none⟩) (n + 4 + j) cap) (n + 4 + j) (bCells (bs ++ [p0, p1, p2, p3] ++ (List.range j).map Y)) ∧ Below B w wr ∧ wr.cell? ⟨w.heap.size, 4, none⟩ = some (.int .i64 i) ∧ Hid (g ≠ w.heap.size)) (fun _ v5 _ => 8 - (intOf v5).toNat)
  case atStart => exact ⟨0, g1, cap1, rfl, by omega, rfl, by simpa using hown1, hb1, hx4, hne⟩
  case round =>
    obtain ⟨j, g, cap, rfl, hj, rfl, hown, hbw, hx, hg⟩ := hrel
    clear hown1 hb1 hx4 hne
    by_cases hlt : j < 8
    · have ev := byte_val e4 (hY.out j)
      have hR : Hid ((List.range (j + 1)).map Y = (List.range j).map Y ++ [Y j]) := hd (by rw [List.range_succ]; simp)
      generalize Y j = y at *
      have hsz := hbw.size
      have hgs := hbw.size
      have hlg := hown.lt g rfl
      have hlw := World.block_lt_of_cell? wr _ hx
      go_wp2_with (at_builtin; (refine wpList_append_lies _ rfl _ _ 31 rfl B 5 i0 (.int .u8 0) 1 1 Tryd.underlying31 hi hz0 hz1 hz2 rfl (by decide) (.slice (some ⟨g, 0, none⟩) (n + 4 + j) cap) _ _ rfl (hown.alloc _) ⟨_, 0, none⟩ 1 1 (bCells [y]) rfl rfl (cells_new [.int .u8 (y : Int)] _ (by simp)) (by simp [bCells, Value.oneCell']) (by decide) (by unfold maxLen; omega) (by omega) (by simp; omega) _ rfl ?_); intro g1 cap1 w1 hown1 hgrow1 hlies1 hlt1)
      have hb1' : Below B w w1 := (hbw.alloc (by omega) _).grown hgrow1 (by simp; omega) (fun j hj => (hown.lt j hj).1)
      have hxx : w1.cell? ⟨w.heap.size, 4, none⟩ = some (.int .i64 i) := hgrow1.cell (alloc_keeps _ hx) (fun e => by
        have e' : w.heap.size = g := by simpa [Value.ownBlock] using e
        exact hg.out e'.symm)
      have hne : Hid (g1 ≠ w.heap.size) := hd (by
        rcases hlies1 with h | h
        · have h' : g = g1 := by simpa [Value.ownBlock] using h
          rw [← h']; exact hg.out
        · simp at h hlw; omega)
      rw [bCells_app, List.append_assoc (bs ++ [p0, p1, p2, p3]), ← hR.out] at hown1
      clear hgrow1 hlies1 hlt1 hown hx hg
      go_roundw
      case rel => exact ⟨j + 1, g1, cap1, by go_num, by omega, by rw [Nat.add_assoc], hown1, hb1', hxx, hne⟩
      case measure => simp [intOf]; omega
    · have ej : j = 8 := by omega
      subst ej
      rw [List.append_assoc, ← hins.out] at hown
      go_wp2
      go_ret
      exact ⟨g, cap, rfl, hown, hbw⟩
end Go.Proofs.YtmjokinagbpihaaDoor

/- A program's bytes, by the document's answer. -/
namespace Go.Proofs.YtmjokinagbpihaaDoor
open Go.RowKit

theorem take_snoc (l : List Ins) (i : Nat) (h : i < l.length) : l.take (i + 1) = l.take i ++ [l.getD i default] := by
  rw [List.take_add_one, List.getD_eq_getElem?_getD, List.getElem?_eq_getElem h]
  rfl
theorem enc_step (l : List Ins) (i : Nat) (h : i < l.length) : encB (l.take (i + 1)) = encB (l.take i) ++ insB (l.getD i default) := by rw [take_snoc l i h, encB_snoc]

theorem may_len {l : List Ins} (h : (mayL l 8).1 = 0) : l.length ≤ 256 := by
  unfold mayL at h
  rw [if_neg (by omega)] at h
  split at h
  · simp at h
  · omega
theorem may_zero {l : List Ins} {k : Int} (h : (mayL l k).1 = 0) : mayL l k = (0, 0) := by
  have h2 := (mayL_place l k).2.2 h
  exact Prod.ext h h2

theorem owns_mono {w : World} {B B' n s : Nat} {e : TypeId} {v : Value} {xs : List Value} (h : w.ownsRow B e s v n xs) (hB : B' ≤ B) : w.ownsRow B' e s v n xs := by
  obtain ⟨h1, h2⟩ := h
  refine ⟨h1, ?_⟩
  rcases h2 with h2 | ⟨g, cap, cur, h2, h3, h4⟩
  · exact .inl h2
  · exact .inr ⟨g, cap, cur, h2, Nat.le_trans hB h3, h4⟩

set_option maxRecDepth 100000 in
theorem encode_no (a : Option Addr) (cap : Nat) (l : List Ins) (w : World) (hP : Prg w a l) (hF : Fld w) (hm : (mayL l 8).1 ≠ 0) :
    Calls Tryd.prog 37 #[.slice a l.length cap] w fun e w' => e = .returned (.tuple #[.slice none 0 0, .int .i64 (mayL l 8).1, .int .i64 (mayL l 8).2]) ∧ Below w.heap.size w w' := by
  have hmay := may_any a cap l 8 w hP hF
  generalize mayL l 8 = R at *
  obtain ⟨E, A⟩ := R
  simp only at *
  have d1 : (E == 0) = false := by simpa using hm
  clear hP hm hF
  go_enter Tryd.func37, Tryd.ntmps37
  go_wp2_with fail
  refine hmay.mono ?_
  rintro e w1 ⟨rfl, b1⟩
  go_wp2_with fail
  go_ret3
  exact ⟨rfl, b1⟩
end Go.Proofs.YtmjokinagbpihaaDoor
