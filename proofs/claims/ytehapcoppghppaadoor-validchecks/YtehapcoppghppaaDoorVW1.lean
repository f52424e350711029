/- The small functions of the program: index, wrong, follow. -/
import Derived.Test.YtehapcoppghppaaDoorCW6
import Derived.Test.YtehapcoppghppaaDoorVM2
import Derived.Laws.BitsAllLaws
namespace Go.Proofs.YtehapcoppghppaaDoor
open Go.RowKit

def stV (t : Nat × Nat) : Value := .agg #[.int .i64 t.1, .int .i64 t.2]

theorem wr29 {x : Ins} {s k : Nat} (h : x.op = 29) (hk : x.imm = k) : wrX x s = if s / 2 ^ k = 0 then 0 else 14 := by unfold wrX; rw [if_pos h, hk, Int.toNat_natCast]
theorem wr30 {x : Ins} {s k : Nat} (h : x.op = 30) (hk : x.imm = k) : wrX x s = if s / 2 ^ k % 2 = 0 then 14 else 0 := by unfold wrX; rw [if_neg (by omega), if_pos h, hk, Int.toNat_natCast]
theorem wrW {x : Ins} {s : Nat} (h : x.op = 24 ∨ x.op = 25 ∨ x.op = 28) : wrX x s = if s = 0 then 0 else 16 := by unfold wrX; rw [if_neg (by omega), if_neg (by omega), if_pos h]
theorem wrO {x : Ins} {s : Nat} (h1 : x.op ≠ 29) (h2 : x.op ≠ 30) (h : ¬ (x.op = 24 ∨ x.op = 25 ∨ x.op = 28)) : wrX x s = 0 := by unfold wrX; rw [if_neg h1, if_neg h2, if_neg h]
theorem fo0 {x : Ins} {p s : Nat} (h : x.op = 0) : folX x p s = [] := by unfold folX; rw [if_pos h]
theorem fo22 {x : Ins} {p s k : Nat} (h : x.op = 22) (hk : x.imm = k) : folX x p s = [(k, s)] := by unfold folX; rw [if_neg (by omega), if_pos h, hk, Int.toNat_natCast]
theorem fo23 {x : Ins} {p s k : Nat} (h : x.op = 23) (hk : x.imm = k) : folX x p s = [(k, s), (p + 1, s)] := by unfold folX; rw [if_neg (by omega), if_neg (by omega), if_pos h, hk, Int.toNat_natCast]
theorem fo29 {x : Ins} {p s k : Nat} (h : x.op = 29) (hk : x.imm = k) : folX x p s = [(p + 1, upS s k)] := by unfold folX; rw [if_neg (by omega), if_neg (by omega), if_neg (by omega), if_pos h, hk, Int.toNat_natCast]
theorem fo30 {x : Ins} {p s k : Nat} (h : x.op = 30) (hk : x.imm = k) : folX x p s = [(p + 1, dnS s k)] := by unfold folX; rw [if_neg (by omega), if_neg (by omega), if_neg (by omega), if_neg (by omega), if_pos h, hk, Int.toNat_natCast]
theorem foO {x : Ins} {p s : Nat} (h0 : x.op ≠ 0) (h1 : x.op ≠ 22) (h2 : x.op ≠ 23) (h3 : x.op ≠ 29) (h4 : x.op ≠ 30) : folX x p s = [(p + 1, s)] := by unfold folX; rw [if_neg h0, if_neg h1, if_neg h2, if_neg h3, if_neg h4]

theorem i64_or (a b : Nat) (ha : a < 9223372036854775808) (hb : b < 9223372036854775808) : bits .or .i64 (a : Int) (b : Int) = ((a ||| b : Nat) : Int) := by
  have hx : a ||| b < 2 ^ 63 := Nat.or_lt_two_pow (by omega) (by omega)
  have h1 : (BitVec.ofInt 64 (a : Int)).toNat = a := by
    rw [BitVec.ofInt_natCast, BitVec.toNat_ofNat]; exact Nat.mod_eq_of_lt (by omega)
  have h2 : (BitVec.ofInt 64 (b : Int)).toNat = b := by
    rw [BitVec.ofInt_natCast, BitVec.toNat_ofNat]; exact Nat.mod_eq_of_lt (by omega)
  show IntKind.i64.wrap ((BitVec.ofInt 64 (a : Int) ||| BitVec.ofInt 64 (b : Int)).toNat : Int) = _
  rw [BitVec.toNat_or, h1, h2]
  simp only [IntKind.wrap, IntKind.bits, IntKind.signed]
  simp
  omega

theorem i64_and (a b : Nat) (ha : a < 9223372036854775808) (hb : b < 9223372036854775808) : bits .and .i64 (a : Int) (b : Int) = ((a &&& b : Nat) : Int) := by
  have hx : a &&& b < 2 ^ 63 := Nat.and_lt_two_pow _ (by omega)
  have h1 : (BitVec.ofInt 64 (a : Int)).toNat = a := by
    rw [BitVec.ofInt_natCast, BitVec.toNat_ofNat]; exact Nat.mod_eq_of_lt (by omega)
  have h2 : (BitVec.ofInt 64 (b : Int)).toNat = b := by
    rw [BitVec.ofInt_natCast, BitVec.toNat_ofNat]; exact Nat.mod_eq_of_lt (by omega)
  show IntKind.i64.wrap ((BitVec.ofInt 64 (a : Int) &&& BitVec.ofInt 64 (b : Int)).toNat : Int) = _
  rw [BitVec.toNat_and, h1, h2]
  simp only [IntKind.wrap, IntKind.bits, IntKind.signed]
  simp
  omega

theorem dn_all : ∀ k : Nat, k < 8 → ∀ s : Nat, s < 256 → bits .andNot .i64 (s : Int) ((2 ^ k : Nat) : Int) = ((dnS s k : Nat) : Int) := by decide +kernel

theorem pow8 (k : Nat) (hk : k < 8) : wrap64 (2 ^ k) = ((2 ^ k : Nat) : Int) := by
  have : ∀ k : Nat, k < 8 → wrap64 (2 ^ k) = ((2 ^ k : Nat) : Int) := by decide +kernel
  exact this k hk
theorem or_up (s k : Nat) (hs : s < 256) (hk : k < 8) : bits .or .i64 (s : Int) (wrap64 (2 ^ k)) = ((upS s k : Nat) : Int) := by
  have h := Nat.pow_lt_pow_right (a := 2) (by decide) hk
  rw [pow8 k hk, i64_or s (2 ^ k) (by omega) (by omega)]
  rfl
theorem and_dn (s k : Nat) (hs : s < 256) (hk : k < 8) : bits .andNot .i64 (s : Int) (wrap64 (2 ^ k)) = ((dnS s k : Nat) : Int) := by
  rw [pow8 k hk]
  exact dn_all k hk s hs

theorem join8 (p s : Nat) (hs : s < 256) (hp : p ≤ 300) : bits .or .i64 ((p : Int) * 256) (s : Int) = ((256 * p + s : Nat) : Int) := by
  have h := i64_or (p * 256) s (by omega) (by omega)
  rw [nat_join 8 (p * 256) s (by omega) hs] at h
  rw [show ((p : Int) * 256) = ((p * 256 : Nat) : Int) by omega, h]
  omega

set_option maxRecDepth 100000 in
theorem index_any (p s : Nat) (w : World) (hs : s < 256) (hp : p ≤ 300) :
    Calls Tryd.prog 20 #[stV (p, s)] w fun e w' => e = .returned (.int .i64 ((256 * p + s : Nat) : Int)) ∧ Below w.heap.size w w' := by
  have B1 : ∀ ob, Below w.heap.size w (w.alloc ob) := fun ob => (Below.refl w.heap.size w).alloc (Nat.le_refl _) ob
  have hj := join8 p s hs hp
  obtain ⟨N, hN⟩ : ∃ N : Nat, 256 * p + s = N := ⟨_, rfl⟩
  rw [hN] at hj ⊢
  clear hN
  unfold stV
  go_enter Tryd.func20, Tryd.ntmps20
  go_wp2
  go_ret
  exact ⟨rfl, B1 _⟩
theorem ins_alloc {w : World} {b o : Nat} {x : Ins} (h : InsAt w b o x) (ob : Obj) : InsAt (w.alloc ob) b o x := h.kept ((Below.refl _ _).alloc (Nat.le_refl _) ob)
theorem ins_alloc2 {w : World} {b o : Nat} {x : Ins} (h : InsAt w b o x) (o1 o2 : Obj) : InsAt ((w.alloc o1).alloc o2) b o x := ins_alloc (ins_alloc h o1) o2

theorem shr_nat (s k : Nat) : (s : Int) / 2 ^ k = ((s / 2 ^ k : Nat) : Int) := by simp

set_option maxRecDepth 100000 in
set_option maxHeartbeats 1000000 in
theorem wrong_in (b off cap N p s : Nat) (x : Ins) (w : World) (hp : p < N) (hs : s < 256) (hx : InsAt w b (off + p * 5) x) (hk : x.op = 29 ∨ x.op = 30 → ∃ k : Nat, k < 8 ∧ x.imm = k) :
    Calls Tryd.prog 28 #[.slice (some ⟨b, off, none⟩) N cap, stV (p, s)] w fun e w' => e = .returned (.int .i64 (wrX x s)) ∧ Below w.heap.size w w' := by
  have B1 : ∀ o1 o2, Below w.heap.size w ((w.alloc o1).alloc o2) := fun o1 o2 => ((Below.refl w.heap.size w).alloc (Nat.le_refl _) o1).alloc (by simp) o2
  obtain ⟨o, xa, xb, xc, xi⟩ := x
  have h0 := fun ob => (ins_alloc hx ob).c0
  have h1 := fun ob => (ins_alloc hx ob).c1
  have h2 := fun ob => (ins_alloc hx ob).c2
  have h3 := fun ob => (ins_alloc hx ob).c3
  have h4 := fun ob => (ins_alloc hx ob).c4
  clear hx
  simp only at h0 h1 h2 h3 h4 hk
  have dp : ((p : Int) == (N : Int)) = false := by simp; omega
  have hp' : (p : Int) < (N : Int) := by omega
  unfold stV
  by_cases e29 : o = 29
  · obtain ⟨k, hk8, rfl⟩ := hk (.inl e29)
    rw [wr29 e29 rfl]
    subst e29
    clear hk
    have hsh := shr_nat s k
    obtain ⟨q, hq⟩ : ∃ q, s / 2 ^ k = q := ⟨_, rfl⟩
    rw [hq] at hsh ⊢
    clear hq
    by_cases hz : q = 0
    · rw [if_pos hz]
      have dq : ((q : Int) != 0) = false := by simp [hz]
      clear hz
      go_enter Tryd.func28, Tryd.ntmps28
      go_wp2
      go_ret
      exact ⟨rfl, B1 _ _⟩
    · rw [if_neg hz]
      have dq : ((q : Int) != 0) = true := by simp [hz]
      clear hz
      go_enter Tryd.func28, Tryd.ntmps28
      go_wp2
      go_ret
      exact ⟨rfl, B1 _ _⟩
  · by_cases e30 : o = 30
    · obtain ⟨k, hk8, rfl⟩ := hk (.inr e30)
      rw [wr30 e30 rfl]
      subst e30
      clear hk e29
      have hsh := shr_nat s k
      have hq8 : s / 2 ^ k ≤ s := Nat.div_le_self _ _
      obtain ⟨q, hq⟩ : ∃ q, s / 2 ^ k = q := ⟨_, rfl⟩
      rw [hq] at hsh hq8 ⊢
      clear hq
      have han := i64_and q 1 (by omega) (by decide)
      rw [Nat.and_one_is_mod] at han
      replace han : bits .and .i64 (q : Int) 1 = ((q % 2 : Nat) : Int) := han
      obtain ⟨r, hr⟩ : ∃ r, q % 2 = r := ⟨_, rfl⟩
      rw [hr] at han ⊢
      clear hr
      by_cases hz : r = 0
      · rw [if_pos hz]
        have dq : ((r : Int) == 0) = true := by simp [hz]
        clear hz
        go_enter Tryd.func28, Tryd.ntmps28
        go_wp2
        go_ret
        exact ⟨rfl, B1 _ _⟩
      · rw [if_neg hz]
        have dq : ((r : Int) == 0) = false := by simp [hz]
        clear hz
        go_enter Tryd.func28, Tryd.ntmps28
        go_wp2
        go_ret
        exact ⟨rfl, B1 _ _⟩
    · clear hk
      have d29 : (o == 29) = false := by simpa using e29
      have d30 : (o == 30) = false := by simpa using e30
      by_cases ew : o = 24 ∨ o = 25 ∨ o = 28
      · rw [wrW ew]
        clear d29 d30 e29 e30
        by_cases hz : s = 0
        · rw [if_pos hz]
          have dq : ((s : Int) != 0) = false := by simp [hz]
          clear hz
          rcases ew with rfl | rfl | rfl
          · go_enter Tryd.func28, Tryd.ntmps28
            go_wp2
            go_ret
            exact ⟨rfl, B1 _ _⟩
          · go_enter Tryd.func28, Tryd.ntmps28
            go_wp2
            go_ret
            exact ⟨rfl, B1 _ _⟩
          · go_enter Tryd.func28, Tryd.ntmps28
            go_wp2
            go_ret
            exact ⟨rfl, B1 _ _⟩
        · rw [if_neg hz]
          have dq : ((s : Int) != 0) = true := by simp [hz]
          clear hz
          rcases ew with rfl | rfl | rfl
          · go_enter Tryd.func28, Tryd.ntmps28
            go_wp2
            go_ret
            exact ⟨rfl, B1 _ _⟩
          · go_enter Tryd.func28, Tryd.ntmps28
            go_wp2
            go_ret
            exact ⟨rfl, B1 _ _⟩
          · go_enter Tryd.func28, Tryd.ntmps28
            go_wp2
            go_ret
            exact ⟨rfl, B1 _ _⟩
      · rw [wrO e29 e30 ew]
        have d24 : (o == 24) = false := by simp; omega
        have d25 : (o == 25) = false := by simp; omega
        have d28 : (o == 28) = false := by simp; omega
        clear e29 e30 ew
        go_enter Tryd.func28, Tryd.ntmps28
        go_wp2
        go_ret
        exact ⟨rfl, B1 _ _⟩

set_option maxRecDepth 100000 in
theorem wrong_out (a : Option Addr) (cap N s : Nat) (w : World) :
    Calls Tryd.prog 28 #[.slice a N cap, stV (N, s)] w fun e w' => e = .returned (.int .i64 0) ∧ Below w.heap.size w w' := by
  have B1 : ∀ o1, Below w.heap.size w (w.alloc o1) := fun o1 => (Below.refl w.heap.size w).alloc (Nat.le_refl _) o1
  unfold stV
  go_enter Tryd.func28, Tryd.ntmps28
  go_wp2
  go_ret
  exact ⟨rfl, B1 _⟩

theorem Ok.imm {l : List Ins} (ok : Ok l) {p : Nat} (hp : p < l.length) (h : (l.getD p default).op = 29 ∨ (l.getD p default).op = 30) : ∃ k : Nat, k < 8 ∧ (l.getD p default).imm = k := by
  have := ok.lck p hp h
  exact ⟨(l.getD p default).imm.toNat, by omega, by omega⟩
theorem Ok.to {l : List Ins} (ok : Ok l) {p : Nat} (hp : p < l.length) (h : (l.getD p default).op = 22 ∨ (l.getD p default).op = 23) : ∃ k : Nat, k ≤ l.length ∧ (l.getD p default).imm = k := by
  have := ok.jmp p hp h
  exact ⟨(l.getD p default).imm.toNat, by omega, by omega⟩

theorem wrong_any (a : Option Addr) (cap : Nat) (l : List Ins) (p s : Nat) (w : World) (hP : Prg w a l) (ok : Ok l) (hs : s < 256) (hp : p ≤ l.length) :
    Calls Tryd.prog 28 #[.slice a l.length cap, stV (p, s)] w fun e w' => e = .returned (.int .i64 (wrP l p s)) ∧ Below w.heap.size w w' := by
  unfold wrP
  by_cases h : l.length ≤ p
  · rw [if_pos h]
    obtain rfl : p = l.length := by omega
    exact wrong_out a cap _ s w
  · rw [if_neg h]
    obtain ⟨b, off, rfl, hx⟩ := hP p (by omega)
    exact wrong_in b off cap l.length p s _ w (by omega) hs hx (ok.imm (by omega))

/-- Stands in memory. -/
def stC (t : Nat × Nat) : List Value := [.int .i64 t.1, .int .i64 t.2]
def sCells (ts : List (Nat × Nat)) : List Value := ts.flatMap stC

/-- A list of stands that came back. -/
def Sts (w : World) (B : Nat) (v : Value) (ts : List (Nat × Nat)) : Prop := w.ownsRow B 53 2 v ts.length (sCells ts)

theorem sts_nil (w : World) (B : Nat) : Sts w B (.slice none 0 0) [] := ⟨rfl, .inl ⟨rfl, rfl⟩⟩
theorem sts_one {w : World} {B g : Nat} {x y : Int} {t : Nat × Nat} (hB : B ≤ w.heap.size) (hg : w.heap.size = g) (hx : x = t.1) (hy : y = t.2) : Sts (w.alloc (.cells #[.int .i64 x, .int .i64 y] 53)) B (.slice (some ⟨g, 0, none⟩) 1 1) [t] := by
  subst hg hx hy
  exact World.ownsRow_lit w #[.int .i64 t.1, .int .i64 t.2] 1 hB (by decide) rfl
theorem sts_two {w : World} {B g : Nat} {x y x' y' : Int} {t u : Nat × Nat} (hB : B ≤ w.heap.size) (hg : w.heap.size = g) (hx : x = t.1) (hy : y = t.2) (hx' : x' = u.1) (hy' : y' = u.2) : Sts (w.alloc (.cells #[.int .i64 x, .int .i64 y, .int .i64 x', .int .i64 y'] 53)) B (.slice (some ⟨g, 0, none⟩) 2 2) [t, u] := by
  subst hg hx hy hx' hy'
  exact World.ownsRow_lit w #[.int .i64 t.1, .int .i64 t.2, .int .i64 u.1, .int .i64 u.2] 2 hB (by decide) rfl

def FolPost (w : World) (ts : List (Nat × Nat)) (e : Ending) (w' : World) : Prop := ∃ v, e = .returned v ∧ Sts w' w.heap.size v ts ∧ Below w.heap.size w w'

set_option maxRecDepth 100000 in
set_option maxHeartbeats 1000000 in
theorem follow_in (b off cap N p s : Nat) (x : Ins) (w : World) (hp : p < N) (hN : N ≤ 256) (hs : s < 256) (hx : InsAt w b (off + p * 5) x) (hk : x.op = 29 ∨ x.op = 30 → ∃ k : Nat, k < 8 ∧ x.imm = k) (hj : x.op = 22 ∨ x.op = 23 → ∃ k : Nat, k ≤ N ∧ x.imm = k) :
    Calls Tryd.prog 29 #[.slice (some ⟨b, off, none⟩) N cap, stV (p, s)] w (FolPost w (folX x p s)) := by
  have B1 : ∀ o1 o2 o3, Below w.heap.size w (((w.alloc o1).alloc o2).alloc o3) := fun o1 o2 o3 => (((Below.refl w.heap.size w).alloc (Nat.le_refl _) o1).alloc (by simp) o2).alloc (by simp; omega) o3
  obtain ⟨o, xa, xb, xc, xi⟩ := x
  have h0 := fun o1 o2 => (ins_alloc2 hx o1 o2).c0
  have h1 := fun o1 o2 => (ins_alloc2 hx o1 o2).c1
  have h2 := fun o1 o2 => (ins_alloc2 hx o1 o2).c2
  have h3 := fun o1 o2 => (ins_alloc2 hx o1 o2).c3
  have h4 := fun o1 o2 => (ins_alloc2 hx o1 o2).c4
  clear hx
  simp only at h0 h1 h2 h3 h4 hk hj
  have dp : ((p : Int) == (N : Int)) = false := by simp; omega
  have hp' : (p : Int) < (N : Int) := by omega
  unfold stV
  by_cases e0 : o = 0
  · rw [fo0 e0]
    subst e0
    clear hk hj
    go_enter Tryd.func29, Tryd.ntmps29
    go_wp2
    go_ret
    exact ⟨_, rfl, sts_nil _ _, B1 _ _ _⟩
  by_cases e22 : o = 22
  · obtain ⟨k, hk8, rfl⟩ := hj (.inl e22)
    rw [fo22 e22 rfl]
    subst e22
    clear hk hj e0
    go_enter Tryd.func29, Tryd.ntmps29
    go_wp2
    go_ret
    exact ⟨_, rfl, sts_one (by simp; omega) (by simp) rfl rfl, (B1 _ _ _).alloc (B1 _ _ _).size _⟩
  by_cases e23 : o = 23
  · obtain ⟨k, hk8, rfl⟩ := hj (.inr e23)
    rw [fo23 e23 rfl]
    subst e23
    clear hk hj e0 e22
    go_enter Tryd.func29, Tryd.ntmps29
    go_wp2
    go_ret
    exact ⟨_, rfl, sts_two (by simp; omega) (by simp) rfl rfl (by simp) rfl, (B1 _ _ _).alloc (B1 _ _ _).size _⟩
  by_cases e29 : o = 29
  · obtain ⟨k, hk8, rfl⟩ := hk (.inl e29)
    rw [fo29 e29 rfl]
    subst e29
    clear hk hj e0 e22 e23
    have hup := or_up s k hs hk8
    obtain ⟨q, hq⟩ : ∃ q, upS s k = q := ⟨_, rfl⟩
    rw [hq] at hup ⊢
    clear hq
    go_enter Tryd.func29, Tryd.ntmps29
    go_wp2
    go_region
    go_wp2
    go_ret
    exact ⟨_, rfl, sts_one (by simp; omega) (by simp) (by simp) rfl, (B1 _ _ _).drew.alloc (B1 _ _ _).size _⟩
  by_cases e30 : o = 30
  · obtain ⟨k, hk8, rfl⟩ := hk (.inr e30)
    rw [fo30 e30 rfl]
    subst e30
    clear hk hj e0 e22 e23 e29
    have hup := and_dn s k hs hk8
    obtain ⟨q, hq⟩ : ∃ q, dnS s k = q := ⟨_, rfl⟩
    rw [hq] at hup ⊢
    clear hq
    go_enter Tryd.func29, Tryd.ntmps29
    go_wp2
    go_region
    go_wp2
    go_ret
    exact ⟨_, rfl, sts_one (by simp; omega) (by simp) (by simp) rfl, (B1 _ _ _).drew.alloc (B1 _ _ _).size _⟩
  rw [foO e0 e22 e23 e29 e30]
  have d0 : (o == 0) = false := by simpa using e0
  have d22 : (o == 22) = false := by simpa using e22
  have d23 : (o == 23) = false := by simpa using e23
  have d29 : (o == 29) = false := by simpa using e29
  have d30 : (o == 30) = false := by simpa using e30
  clear hk hj e0 e22 e23 e29 e30
  go_enter Tryd.func29, Tryd.ntmps29
  go_wp2
  go_ret
  exact ⟨_, rfl, sts_one (by simp; omega) (by simp) (by simp) rfl, (B1 _ _ _).alloc (B1 _ _ _).size _⟩

set_option maxRecDepth 100000 in
theorem follow_out (a : Option Addr) (cap N s : Nat) (w : World) :
    Calls Tryd.prog 29 #[.slice a N cap, stV (N, s)] w (FolPost w []) := by
  have B1 : ∀ o1, Below w.heap.size w (w.alloc o1) := fun o1 => (Below.refl w.heap.size w).alloc (Nat.le_refl _) o1
  unfold stV
  go_enter Tryd.func29, Tryd.ntmps29
  go_wp2
  go_ret
  exact ⟨_, rfl, sts_nil _ _, B1 _⟩

theorem follow_any (a : Option Addr) (cap : Nat) (l : List Ins) (p s : Nat) (w : World) (hP : Prg w a l) (ok : Ok l) (hs : s < 256) (hp : p ≤ l.length) :
    Calls Tryd.prog 29 #[.slice a l.length cap, stV (p, s)] w (FolPost w (folP l p s)) := by
  unfold folP
  by_cases h : l.length ≤ p
  · rw [if_pos h]
    obtain rfl : p = l.length := by omega
    exact follow_out a cap _ s w
  · rw [if_neg h]
    obtain ⟨b, off, rfl, hx⟩ := hP p (by omega)
    exact follow_in b off cap l.length p s _ w (by omega) ok.len hs hx (ok.imm (by omega)) (ok.to (by omega))

end Go.Proofs.YtehapcoppghppaaDoor
