/- The document's side: wrong, stand, behind. -/
import Derived.Test.YtehapcoppghppaaDoorVW2
import Derived.Deep.LoopGhost
import Derived.Deep.CutRange
namespace Go.Proofs.YtehapcoppghppaaDoor
open Go.RowKit

set_option maxRecDepth 100000 in
theorem stand_any (p s : Nat) (w : World) (hs : s ≤ 300) (hp : p ≤ 300) :
    Calls Tryd.prog 25 #[.int .i64 (p : Int), .int .i64 (s : Int)] w fun e w' => e = .returned (.int .i64 ((256 * p + s : Nat) : Int)) ∧ w' = w := by
  go_enter Tryd.func25, Tryd.ntmps25
  go_wp2
  go_ret
  exact ⟨ret_int (by omega), rfl⟩

set_option maxRecDepth 100000 in
set_option maxHeartbeats 1000000 in
theorem rwrong_any (x : Ins) (s : Nat) (w : World) (hs : s < 256) (hk : x.op = 29 ∨ x.op = 30 → ∃ k : Nat, k < 8 ∧ x.imm = k) :
    Calls Tryd.prog 31 #[insV x, .int .i64 (s : Int)] w fun e w' => e = .returned (.int .i64 (wrX x s)) ∧ Below w.heap.size w w' := by
  have B1 : ∀ o1, Below w.heap.size w (w.alloc o1) := fun o1 => (Below.refl w.heap.size w).alloc (Nat.le_refl _) o1
  obtain ⟨o, xa, xb, xc, xi⟩ := x
  simp only at hk
  unfold insV
  by_cases e29 : o = 29
  · obtain ⟨k, hk8, rfl⟩ := hk (.inl e29)
    rw [wr29 e29 rfl]
    subst e29
    clear hk
    have hsh := shr_nat s k
    obtain ⟨q, hq⟩ : ∃ q, s / 2 ^ k = q := ⟨_, rfl⟩
    rw [hq] at hsh ⊢
    clear hq
    by_cases hz : q = 0
    · rw [if_pos hz]
      have dq : decide ((0 : Int) < (q : Int)) = false := by simp; omega
      have dqn : decide (0 < q) = false := by simp; omega
      clear hz
      go_enter Tryd.func31, Tryd.ntmps31
      go_wp2
      go_ret
      exact ⟨rfl, B1 _⟩
    · rw [if_neg hz]
      have dq : decide ((0 : Int) < (q : Int)) = true := by simp; omega
      have dqn : decide (0 < q) = true := by simp; omega
      clear hz
      go_enter Tryd.func31, Tryd.ntmps31
      go_wp2
      go_ret
      exact ⟨rfl, B1 _⟩
  · by_cases e30 : o = 30
    · obtain ⟨k, hk8, rfl⟩ := hk (.inr e30)
      rw [wr30 e30 rfl]
      subst e30
      clear hk e29
      have hsh := shr_nat s k
      have hq8 : s / 2 ^ k ≤ s := Nat.div_le_self _ _
      obtain ⟨q, hq⟩ : ∃ q, s / 2 ^ k = q := ⟨_, rfl⟩
      rw [hq] at hsh hq8 ⊢
      clear hq
      have han := i64_and q 1 (by omega) (by decide)
      rw [Nat.and_one_is_mod] at han
      replace han : bits .and .i64 (q : Int) 1 = ((q % 2 : Nat) : Int) := han
      obtain ⟨r, hr⟩ : ∃ r, q % 2 = r := ⟨_, rfl⟩
      rw [hr] at han ⊢
      clear hr
      by_cases hz : r = 0
      · rw [if_pos hz]
        have dq : ((r : Int) == 0) = true := by simp [hz]
        clear hz
        go_enter Tryd.func31, Tryd.ntmps31
        go_wp2
        go_ret
        exact ⟨rfl, B1 _⟩
      · rw [if_neg hz]
        have dq : ((r : Int) == 0) = false := by simp [hz]
        clear hz
        go_enter Tryd.func31, Tryd.ntmps31
        go_wp2
        go_ret
        exact ⟨rfl, B1 _⟩
    · clear hk
      have d29 : (o == 29) = false := by simpa using e29
      have d30 : (o == 30) = false := by simpa using e30
      by_cases ew : o = 24 ∨ o = 25 ∨ o = 28
      · rw [wrW ew]
        clear d29 d30 e29 e30
        by_cases hz : s = 0
        · rw [if_pos hz]
          have dq : decide ((0 : Int) < (s : Int)) = false := by simp; omega
          have dqn : decide (0 < s) = false := by simp; omega
          clear hz
          rcases ew with rfl | rfl | rfl
          · go_enter Tryd.func31, Tryd.ntmps31
            go_wp2
            go_ret
            exact ⟨rfl, B1 _⟩
          · go_enter Tryd.func31, Tryd.ntmps31
            go_wp2
            go_ret
            exact ⟨rfl, B1 _⟩
          · go_enter Tryd.func31, Tryd.ntmps31
            go_wp2
            go_ret
            exact ⟨rfl, B1 _⟩
        · rw [if_neg hz]
          have dq : decide ((0 : Int) < (s : Int)) = true := by simp; omega
          have dqn : decide (0 < s) = true := by simp; omega
          clear hz
          rcases ew with rfl | rfl | rfl
          · go_enter Tryd.func31, Tryd.ntmps31
            go_wp2
            go_ret
            exact ⟨rfl, B1 _⟩
          · go_enter Tryd.func31, Tryd.ntmps31
            go_wp2
            go_ret
            exact ⟨rfl, B1 _⟩
          · go_enter Tryd.func31, Tryd.ntmps31
            go_wp2
            go_ret
            exact ⟨rfl, B1 _⟩
      · rw [wrO e29 e30 ew]
        have d24 : (o == 24) = false := by simp; omega
        have d25 : (o == 25) = false := by simp; omega
        have d28 : (o == 28) = false := by simp; omega
        clear e29 e30 ew
        go_enter Tryd.func31, Tryd.ntmps31
        go_wp2
        go_ret
        exact ⟨rfl, B1 _⟩

/-- Numbers in memory. -/
def nC (ts : List Nat) : List Value := ts.map fun (t : Nat) => .int .i64 (t : Int)
theorem nC_len (ts : List Nat) : (nC ts).length = ts.length := by simp [nC]
theorem nC_at (ts : List Nat) (i : Nat) (h : i < ts.length) : (nC ts)[i]? = some (.int .i64 ((ts.getD i 0 : Nat) : Int)) := by
  simp [nC, List.getD_eq_getElem?_getD, h]
theorem nC_snoc (ts : List Nat) (t : Nat) : nC (ts ++ [t]) = nC ts ++ [.int .i64 (t : Int)] := by simp [nC]
def Ns (w : World) (B : Nat) (v : Value) (ts : List Nat) : Prop := w.ownsRow B 3 1 v ts.length (nC ts)
theorem Ns.kept {w w' : World} {B : Nat} {v : Value} {ts : List Nat} (h : Ns w B v ts) (hb : Below w.heap.size w w') : Ns w' B v ts := owns_below h hb
theorem Ns.grown {w w' : World} {B : Nat} {v : Value} {ts : List Nat} {r : Option Nat} (h : Ns w B v ts) (hg : w.grownBy w' r) (hr : r = none ∨ r ≠ v.ownBlock) : Ns w' B v ts :=
  owns_grown h hg (fun b hb => by
    rcases hr with rfl | hr
    · simp
    · rw [← hb]; exact fun e => hr e.symm)
theorem Ns.form {w : World} {B : Nat} {v : Value} {ts : List Nat} (h : Ns w B v ts) : ∃ a cap, v = .slice a ts.length cap ∧ ts.length ≤ cap ∧ ∀ i, i < ts.length → ∃ g, a = some ⟨g, 0, none⟩ ∧ B ≤ g ∧ w.cell? ⟨g, i, none⟩ = some (.int .i64 ((ts.getD i 0 : Nat) : Int)) := by
  rcases h.2 with ⟨h1, h2⟩ | ⟨g, cap, cur, h1, h2, h3, h4, _⟩
  · exact ⟨none, 0, by rw [h1, h2], by omega, fun i hi => by omega⟩
  · refine ⟨_, cap, h1, h4, fun i hi => ⟨g, rfl, h2, ?_⟩⟩
    rw [h1] at h
    rw [World.ownsRow.cellAt h _ (by omega)]
    exact nC_at ts i hi
theorem ns_nil (w : World) (B : Nat) : Ns w B (.slice none 0 0) [] := ⟨rfl, .inl ⟨rfl, rfl⟩⟩
theorem ns_one {w : World} {B g : Nat} {x : Int} {t : Nat} (hB : B ≤ w.heap.size) (hg : w.heap.size = g) (hx : x = t) : Ns (w.alloc (.cells #[.int .i64 x] 3)) B (.slice (some ⟨g, 0, none⟩) 1 1) [t] := by
  subst hg hx
  exact World.ownsRow_lit w #[.int .i64 (t : Int)] 1 hB (by decide) rfl
theorem ns_two {w : World} {B g : Nat} {x y : Int} {t u : Nat} (hB : B ≤ w.heap.size) (hg : w.heap.size = g) (hx : x = t) (hy : y = u) : Ns (w.alloc (.cells #[.int .i64 x, .int .i64 y] 3)) B (.slice (some ⟨g, 0, none⟩) 2 2) [t, u] := by
  subst hg hx hy
  exact World.ownsRow_lit w #[.int .i64 (t : Int), .int .i64 (u : Int)] 2 hB (by decide) rfl

def NPost (w : World) (ts : List Nat) (e : Ending) (w' : World) : Prop := ∃ v, e = .returned v ∧ Ns w' w.heap.size v ts ∧ Below w.heap.size w w'

set_option maxRecDepth 100000 in
set_option maxHeartbeats 2000000 in
theorem behind_out (a : Option Addr) (cap N n p s : Nat) (w : World) (hn : n = 256 * p + s) (hs : s < 256) (hp : p = N) (hN : N ≤ 256) :
    Calls Tryd.prog 32 #[.slice a N cap, .int .i64 (n : Int)] w (NPost w []) := by
  have q1 : (n : Int) / 256 = (p : Int) := by omega
  have q2 : (n : Int) % 256 = (s : Int) := by omega
  have q3 : (n : Int).tdiv 256 = (p : Int) := by rw [Int.tdiv_eq_ediv_of_nonneg (by omega)]; exact q1
  have q4 : (n : Int).tmod 256 = (s : Int) := by rw [Int.tmod_eq_emod_of_nonneg (by omega)]; exact q2
  have dp : ((p : Int) == (N : Int)) = true := by simp [hp]
  have hnb : n ≤ 70000 := by omega
  have hpb : p ≤ 256 := by omega
  clear hn hp q1 q2
  go_enter Tryd.func32, Tryd.ntmps32
  go_wp2
  go_ret
  exact ⟨_, rfl, ns_nil _ _, Below.refl _ _⟩

set_option maxRecDepth 100000 in
set_option maxHeartbeats 4000000 in
theorem behind_in (b off cap N n p s : Nat) (x : Ins) (w : World) (hn : n = 256 * p + s) (hs : s < 256) (hp : p < N) (hN : N ≤ 256) (hx : InsAt w b (off + p * 5) x) (hk : x.op = 29 ∨ x.op = 30 → ∃ k : Nat, k < 8 ∧ x.imm = k) (hj : x.op = 22 ∨ x.op = 23 → ∃ k : Nat, k ≤ N ∧ x.imm = k) :
    Calls Tryd.prog 32 #[.slice (some ⟨b, off, none⟩) N cap, .int .i64 (n : Int)] w (NPost w (if wrX x s = 0 then (folX x p s).map num else [])) := by
  have q1 : (n : Int) / 256 = (p : Int) := by omega
  have q2 : (n : Int) % 256 = (s : Int) := by omega
  have q3 : (n : Int).tdiv 256 = (p : Int) := by rw [Int.tdiv_eq_ediv_of_nonneg (by omega)]; exact q1
  have q4 : (n : Int).tmod 256 = (s : Int) := by rw [Int.tmod_eq_emod_of_nonneg (by omega)]; exact q2
  have dp : ((p : Int) == (N : Int)) = false := by simp; omega
  have hp' : (p : Int) < (N : Int) := by omega
  have hnb : n ≤ 70000 := by omega
  have B0 : ∀ ob, Below w.heap.size w (w.alloc ob) := fun ob => (Below.refl w.heap.size w).alloc (Nat.le_refl _) ob
  have hWr := fun (W : World) => rwrong_any x s W hs hk
  obtain ⟨k0, k1, k2, k3, k4⟩ := hx
  obtain ⟨E, hE⟩ : ∃ E, Hid (wrX x s = E) := ⟨_, rfl⟩
  rw [hE.out] at hWr ⊢
  obtain ⟨o, xa, xb, xc, xi⟩ := x
  simp only at k0 k1 k2 k3 k4 hk hj
  unfold insV at hWr
  simp only at hWr
  clear hn q1 q2
  by_cases e0 : o = 0
  · rw [fo0 e0]
    subst e0
    have ee : (if E = 0 then List.map num [] else []) = ([] : List Nat) := by split <;> rfl
    rw [ee]
    clear hk hj hWr ee
    go_enter Tryd.func32, Tryd.ntmps32
    go_wp2
    go_ret
    exact ⟨_, rfl, ns_nil _ _, Below.refl _ _⟩
  have d0 : (o == 0) = false := by simpa using e0
  by_cases he : E = 0
  · rw [if_pos he]
    have de : (E != 0) = false := by simp [he]
    clear he
    by_cases e22 : o = 22
    · obtain ⟨k, hk8, rfl⟩ := hj (.inl e22)
      rw [fo22 e22 rfl]
      subst e22
      have hSt := fun (W : World) => stand_any k s W (by omega) (by omega)
      have en : List.map num [(k, s)] = [256 * k + s] := rfl
      rw [en]
      generalize 256 * k + s = m at *
      clear hk hj e0 d0 en
      go_enter Tryd.func32, Tryd.ntmps32
      go_upto_region 7 with (go_at_call 31; refine (hWr _).mono ?_; rintro e1 w1 ⟨rfl, b1⟩)
      have BA : ∀ _u : Unit, Below w.heap.size w w1 := fun _ => (B0 _).trans (b1.mono (B0 _).size)
      have hfl := fun r (hr : r < 5) => (b1.cell (p := ⟨w.heap.size, r, none⟩) (by simp)).trans (by rw [cell_of_row _ _ _ _ _ _ (heap_alloc_new w _)] : _ = #[Value.int .i64 22, .int .i64 xa, .int .i64 xb, .int .i64 xc, .int .i64 (k : Int)][r]?)
      have m0 := hfl 0 (by omega)
      have m4 := hfl 4 (by omega)
      clear hfl
      go_wp2_with (go_at_call 25; refine (hSt _).mono ?_; rintro e2 w2 ⟨rfl, rfl⟩)
      go_ret
      exact ⟨_, rfl, ns_one (BA ()).size rfl rfl, (BA ()).alloc (BA ()).size _⟩
    by_cases e23 : o = 23
    · obtain ⟨k, hk8, rfl⟩ := hj (.inr e23)
      rw [fo23 e23 rfl]
      subst e23
      have hSt := fun (W : World) => stand_any k s W (by omega) (by omega)
      have hSu := fun (W : World) => stand_any (p + 1) s W (by omega) (by omega)
      simp only [Int.natCast_add, Int.natCast_one] at hSu
      have en : List.map num [(k, s), (p + 1, s)] = [256 * k + s, 256 * (p + 1) + s] := rfl
      rw [en]
      generalize 256 * k + s = m at *
      clear hk hj e0 d0 e22 en
      go_enter Tryd.func32, Tryd.ntmps32
      go_upto_region 7 with (go_at_call 31; refine (hWr _).mono ?_; rintro e1 w1 ⟨rfl, b1⟩)
      have BA := (B0 (.cells #[.int .i64 23, .int .i64 xa, .int .i64 xb, .int .i64 xc, .int .i64 (k : Int)] 25)).trans (b1.mono (B0 _).size)
      have hfl := fun r (hr : r < 5) => (b1.cell (p := ⟨w.heap.size, r, none⟩) (by simp)).trans (by rw [cell_of_row _ _ _ _ _ _ (heap_alloc_new w _)] : _ = #[Value.int .i64 23, .int .i64 xa, .int .i64 xb, .int .i64 xc, .int .i64 (k : Int)][r]?)
      have m0 := hfl 0 (by omega)
      have m4 := hfl 4 (by omega)
      clear hfl
      go_wp2_with (go_at_call 25; first | (with_reducible refine (hSt _).mono ?_; rintro e2 w2 ⟨rfl, rfl⟩) | (with_reducible refine (hSu _).mono ?_; rintro e3 w3 ⟨rfl, rfl⟩))
      go_ret
      exact ⟨_, rfl, ns_two BA.size rfl rfl (by omega), BA.alloc BA.size _⟩
    by_cases e29 : o = 29
    · obtain ⟨k, hk8, rfl⟩ := hk (.inl e29)
      rw [fo29 e29 rfl]
      subst e29
      have hup := or_up s k hs hk8
      have hul := upS_lt hs hk8
      obtain ⟨q, hq⟩ : ∃ q, upS s k = q := ⟨_, rfl⟩
      rw [hq] at hup hul ⊢
      have hSt := fun (W : World) => stand_any (p + 1) q W (by omega) (by omega)
      simp only [Int.natCast_add, Int.natCast_one] at hSt
      have en : List.map num [(p + 1, q)] = [256 * (p + 1) + q] := rfl
      rw [en]
      clear hk hj e0 d0 e22 e23 en hq
      go_enter Tryd.func32, Tryd.ntmps32
      go_upto_region 7 with (go_at_call 31; refine (hWr _).mono ?_; rintro e1 w1 ⟨rfl, b1⟩)
      have BA : ∀ _u : Unit, Below w.heap.size w w1 := fun _ => (B0 _).trans (b1.mono (B0 _).size)
      have hfl := fun r (hr : r < 5) => (b1.cell (p := ⟨w.heap.size, r, none⟩) (by simp)).trans (by rw [cell_of_row _ _ _ _ _ _ (heap_alloc_new w _)] : _ = #[Value.int .i64 29, .int .i64 xa, .int .i64 xb, .int .i64 xc, .int .i64 (k : Int)][r]?)
      have m0 := hfl 0 (by omega)
      have m4 := hfl 4 (by omega)
      clear hfl
      go_wp2_with (go_at_call 25; refine (hSt _).mono ?_; rintro e2 w2 ⟨rfl, rfl⟩)
      go_ret
      exact ⟨_, rfl, ns_one (BA ()).size rfl (by omega), (BA ()).alloc (BA ()).size _⟩
    by_cases e30 : o = 30
    · obtain ⟨k, hk8, rfl⟩ := hk (.inr e30)
      rw [fo30 e30 rfl]
      subst e30
      have hup := and_dn s k hs hk8
      have hul := dnS_le s k
      obtain ⟨q, hq⟩ : ∃ q, dnS s k = q := ⟨_, rfl⟩
      rw [hq] at hup hul ⊢
      have hSt := fun (W : World) => stand_any (p + 1) q W (by omega) (by omega)
      simp only [Int.natCast_add, Int.natCast_one] at hSt
      have en : List.map num [(p + 1, q)] = [256 * (p + 1) + q] := rfl
      rw [en]
      clear hk hj e0 d0 e22 e23 e29 en hq
      go_enter Tryd.func32, Tryd.ntmps32
      go_upto_region 7 with (go_at_call 31; refine (hWr _).mono ?_; rintro e1 w1 ⟨rfl, b1⟩)
      have BA : ∀ _u : Unit, Below w.heap.size w w1 := fun _ => (B0 _).trans (b1.mono (B0 _).size)
      have hfl := fun r (hr : r < 5) => (b1.cell (p := ⟨w.heap.size, r, none⟩) (by simp)).trans (by rw [cell_of_row _ _ _ _ _ _ (heap_alloc_new w _)] : _ = #[Value.int .i64 30, .int .i64 xa, .int .i64 xb, .int .i64 xc, .int .i64 (k : Int)][r]?)
      have m0 := hfl 0 (by omega)
      have m4 := hfl 4 (by omega)
      clear hfl
      go_wp2_with (go_at_call 25; refine (hSt _).mono ?_; rintro e2 w2 ⟨rfl, rfl⟩)
      go_ret
      exact ⟨_, rfl, ns_one (BA ()).size rfl (by omega), (BA ()).alloc (BA ()).size _⟩
    rw [foO e0 e22 e23 e29 e30]
    have hSt := fun (W : World) => stand_any (p + 1) s W (by omega) (by omega)
    simp only [Int.natCast_add, Int.natCast_one] at hSt
    have en : List.map num [(p + 1, s)] = [256 * (p + 1) + s] := rfl
    rw [en]
    have d22 : (o == 22) = false := by simpa using e22
    have d23 : (o == 23) = false := by simpa using e23
    have d29 : (o == 29) = false := by simpa using e29
    have d30 : (o == 30) = false := by simpa using e30
    clear hk hj e0 e22 e23 e29 e30 en
    go_enter Tryd.func32, Tryd.ntmps32
    go_upto_region 7 with (go_at_call 31; refine (hWr _).mono ?_; rintro e1 w1 ⟨rfl, b1⟩)
    have BA : ∀ _u : Unit, Below w.heap.size w w1 := fun _ => (B0 _).trans (b1.mono (B0 _).size)
    have hfl := fun r (hr : r < 5) => (b1.cell (p := ⟨w.heap.size, r, none⟩) (by simp)).trans (by rw [cell_of_row _ _ _ _ _ _ (heap_alloc_new w _)] : _ = #[Value.int .i64 o, .int .i64 xa, .int .i64 xb, .int .i64 xc, .int .i64 xi][r]?)
    have m0 := hfl 0 (by omega)
    have m4 := hfl 4 (by omega)
    clear hfl
    go_wp2_with (go_at_call 25; refine (hSt _).mono ?_; rintro e2 w2 ⟨rfl, rfl⟩)
    go_ret
    exact ⟨_, rfl, ns_one (BA ()).size rfl (by omega), (BA ()).alloc (BA ()).size _⟩
  · rw [if_neg he]
    have de : (E != 0) = true := by simpa using he
    clear he hk hj e0
    go_enter Tryd.func32, Tryd.ntmps32
    go_wp2_with (go_at_call 31; refine (hWr _).mono ?_; rintro e1 w1 ⟨rfl, b1⟩)
    go_ret
    exact ⟨_, rfl, ns_nil _ _, (B0 _).trans (b1.mono (B0 _).size)⟩

theorem behind_any (a : Option Addr) (cap : Nat) (l : List Ins) (n : Nat) (w : World) (hP : Prg w a l) (ok : Ok l) (hn : n < 256 * (l.length + 1)) :
    Calls Tryd.prog 32 #[.slice a l.length cap, .int .i64 (n : Int)] w (NPost w (nxt l n)) := by
  have hN := ok.len
  by_cases h : l.length ≤ n / 256
  · have e : nxt l n = [] := by
      unfold nxt wrE wrP folP
      rw [if_pos h, if_pos h]
      rfl
    rw [e]
    exact behind_out a cap l.length n (n / 256) (n % 256) w (by omega) (by omega) (by omega) hN
  · obtain ⟨b, off, rfl, hx⟩ := hP (n / 256) (by omega)
    have e : nxt l n = if wrX (l.getD (n / 256) default) (n % 256) = 0 then (folX (l.getD (n / 256) default) (n / 256) (n % 256)).map num else [] := by
      unfold nxt wrE wrP folP
      rw [if_neg h, if_neg h]
    rw [e]
    exact behind_in b off cap l.length n (n / 256) (n % 256) _ w (by omega) (by omega) (by omega) hN hx (ok.imm (by omega)) (ok.to (by omega))
end Go.Proofs.YtehapcoppghppaaDoor
