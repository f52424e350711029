/- An instruction as the reader takes it. -/
import Derived.Test.YtmjokinagbpihaaDoorGQx
namespace Go.Proofs.YtmjokinagbpihaaDoor
open Go.RowKit

def ins4 (bs : List Nat) (s : St) : Nat → St
  | 0 => s
  | m + 1 => (numS bs 1 (ins4 bs s m)).2
def rawI (bs : List Nat) (s : St) : Ins := ⟨((numS bs 1 (ins4 bs s 0)).1 : Nat), ((numS bs 1 (ins4 bs s 1)).1 : Nat), ((numS bs 1 (ins4 bs s 2)).1 : Nat), ((numS bs 1 (ins4 bs s 3)).1 : Nat), wrap64 ((numS bs 8 (ins4 bs s 4)).1 : Nat)⟩
def rawS (bs : List Nat) (s : St) : St := (numS bs 8 (ins4 bs s 4)).2
def cutB (bs : List Nat) (p q : Nat) : List Nat := (bs.drop p).take (q - p)
def plI (bs : List Nat) (s : St) (E : Int) : Int := if E = 13 then 4 else (decR (cutB bs s.nx (rawS bs s).nx)).2
def insS (bs : List Nat) (n k : Int) (s : St) : St := failS (rawS bs s) (wrong (rawI bs s) n k).1 (s.nx + plI bs s (wrong (rawI bs s) n k).1)

theorem numS_good {bs : List Nat} {k : Nat} {s : St} (h : s.e = 0) (hl : s.nx + k ≤ bs.length) : numS bs k s = (sumB bs s.nx k, { s with fr := s.nx, nx := s.nx + k }) := by
  unfold numS
  rw [if_neg (by simp [h]), if_neg (by omega)]
theorem numS_short {bs : List Nat} {k : Nat} {s : St} (h : s.e = 0) (hl : bs.length < s.nx + k) : numS bs k s = (0, { s with e := 5, at_ := bs.length }) := by
  unfold numS
  rw [if_neg (by simp [h]), if_pos hl]
theorem sumB_one (bs : List Nat) (p : Nat) : sumB bs p 1 = bs.getD p 0 := by simp [sumB]

theorem ins4_good {bs : List Nat} {s : St} (h : s.e = 0) : ∀ m, s.nx + m ≤ bs.length → (ins4 bs s m).e = 0 ∧ (ins4 bs s m).nx = s.nx + m ∧ (ins4 bs s m).at_ = s.at_
  | 0, _ => ⟨h, rfl, rfl⟩
  | m + 1, hl => by
    obtain ⟨h1, h2, h3⟩ := ins4_good (bs := bs) h m (by omega)
    rw [ins4, numS_good h1 (by omega)]
    exact ⟨h1, by simp only; omega, h3⟩
theorem ins4_short {bs : List Nat} {s : St} (h : s.e = 0) (hs : s.nx ≤ bs.length) : ∀ m, bs.length < s.nx + m → (ins4 bs s m).e = 5 ∧ (ins4 bs s m).at_ = bs.length ∧ (ins4 bs s m).nx = bs.length
  | 0, hl => by omega
  | m + 1, hl => by
    by_cases h1 : bs.length < s.nx + m
    · obtain ⟨k1, k2, k3⟩ := ins4_short h hs m h1
      rw [ins4, numS_bad (by rw [k1]; decide)]
      exact ⟨k1, k2, k3⟩
    · obtain ⟨k1, k2, k3⟩ := ins4_good (bs := bs) h m (by omega)
      rw [ins4, numS_short k1 (by omega)]
      exact ⟨rfl, rfl, by simp only; omega⟩

theorem raw_full {bs : List Nat} {s : St} (h : s.e = 0) (hl : s.nx + 12 ≤ bs.length) : rawI bs s = getI bs s.nx ∧ (rawS bs s).e = 0 ∧ (rawS bs s).at_ = s.at_ ∧ (rawS bs s).nx = s.nx + 12 := by
  have g0 := ins4_good (bs := bs) h 0 (by omega)
  have g1 := ins4_good (bs := bs) h 1 (by omega)
  have g2 := ins4_good (bs := bs) h 2 (by omega)
  have g3 := ins4_good (bs := bs) h 3 (by omega)
  have g4 := ins4_good (bs := bs) h 4 (by omega)
  unfold rawI rawS getI
  rw [numS_good g0.1 (by omega), numS_good g1.1 (by omega), numS_good g2.1 (by omega), numS_good g3.1 (by omega), numS_good g4.1 (by omega)]
  simp only
  rw [g0.2.1, g1.2.1, g2.2.1, g3.2.1, g4.2.1, sumB_one, sumB_one, sumB_one, sumB_one]
  exact ⟨rfl, g4.1, g4.2.2, by omega⟩
theorem raw_short {bs : List Nat} {s : St} (h : s.e = 0) (hs : s.nx ≤ bs.length) (hl : bs.length < s.nx + 12) : (rawS bs s).e = 5 ∧ (rawS bs s).at_ = bs.length := by
  unfold rawS
  by_cases h1 : bs.length < s.nx + 4
  · obtain ⟨k1, k2, k3⟩ := ins4_short h hs 4 h1
    rw [numS_bad (by rw [k1]; decide)]
    exact ⟨k1, k2⟩
  · obtain ⟨k1, k2, k3⟩ := ins4_good (bs := bs) h 4 (by omega)
    rw [numS_short k1 (by omega)]
    exact ⟨rfl, rfl⟩

theorem numS_nx {bs : List Nat} {k : Nat} {s : St} (h : s.nx ≤ bs.length) : s.nx ≤ (numS bs k s).2.nx ∧ (numS bs k s).2.nx ≤ bs.length ∧ (numS bs k s).2.nx ≤ s.nx + k := by
  unfold numS
  split
  · exact ⟨Nat.le_refl _, h, by simp only; omega⟩
  · split
    · exact ⟨Nat.le_refl _, h, by simp only; omega⟩
    · simp only
      omega
theorem ins4_nx {bs : List Nat} {s : St} (h : s.nx ≤ bs.length) : ∀ m, s.nx ≤ (ins4 bs s m).nx ∧ (ins4 bs s m).nx ≤ bs.length ∧ (ins4 bs s m).nx ≤ s.nx + m
  | 0 => ⟨Nat.le_refl _, h, Nat.le_refl _⟩
  | m + 1 => by
    have ih := ins4_nx h m
    have := numS_nx (bs := bs) (k := 1) ih.2.1
    rw [ins4]
    omega
theorem raw_nx {bs : List Nat} {s : St} (h : s.nx ≤ bs.length) : s.nx ≤ (rawS bs s).nx ∧ (rawS bs s).nx ≤ bs.length ∧ (rawS bs s).nx ≤ s.nx + 12 := by
  have ih := ins4_nx h 4
  have := numS_nx (bs := bs) (k := 8) ih.2.1
  unfold rawS
  omega

theorem cut_len {bs : List Nat} {p q : Nat} (h : p ≤ q) (hq : q ≤ bs.length) : (cutB bs p q).length = q - p := by
  unfold cutB
  rw [List.length_take, List.length_drop]
  omega
theorem cut_at {bs : List Nat} {p q i : Nat} (h : i < q - p) : (cutB bs p q).getD i 0 = bs.getD (p + i) 0 := by
  unfold cutB
  rw [List.getD_eq_getElem?_getD, List.getElem?_take, if_pos h, List.getElem?_drop, ← List.getD_eq_getElem?_getD]
theorem get_cut {bs : List Nat} {p : Nat} : getI (cutB bs p (p + 12)) 0 = getI bs p := by
  have e1 : ∀ i, i < 12 → (cutB bs p (p + 12)).getD i 0 = bs.getD (p + i) 0 := fun i hi => cut_at (by omega)
  have e2 : ∀ m, m ≤ 8 → sumB (cutB bs p (p + 12)) (0 + 4) m = sumB bs (p + 4) m := fun m => by
    induction m with
    | zero => intro _; rfl
    | succ m ih =>
      intro hm
      rw [sumB, sumB, ih (by omega), show 0 + 4 + m = 4 + m by omega, e1 (4 + m) (by omega), show p + (4 + m) = p + 4 + m by omega]
  unfold getI
  rw [e2 8 (by omega), e1 0 (by omega), e1 (0 + 1) (by omega), e1 (0 + 2) (by omega), e1 (0 + 3) (by omega)]
  simp

theorem regE_13 (y : Int) (b : Bool) : regE y b ≠ 13 := by
  unfold regE
  split <;> split <;> decide
theorem immE_less {o i n k : Int} (hn : 1 ≤ n) (hi : immE o i n k ≠ 0) (h13 : immE o i n k ≠ 13) : immE o i 1 8 ≠ 0 := by
  unfold immE at hi h13 ⊢
  by_cases hI : hI o = true
  · rw [if_pos hI] at hi h13 ⊢
    by_cases h22 : o = 22 ∨ o = 23
    · rw [if_pos h22] at hi ⊢
      by_cases hj : 0 ≤ i ∧ i ≤ n
      · rw [if_pos hj] at hi
        exact absurd rfl hi
      · rw [if_neg (by omega)]
        decide
    · rw [if_neg h22] at hi h13 ⊢
      by_cases h29 : o = 29 ∨ o = 30
      · rw [if_pos h29] at hi h13
        by_cases hj : 0 ≤ i ∧ i < k
        · rw [if_pos hj] at hi
          exact absurd rfl hi
        · rw [if_neg hj] at h13
          exact absurd rfl h13
      · rw [if_neg h29] at hi
        exact absurd rfl hi
  · rw [if_neg hI] at hi ⊢
    exact hi
/-- Where something is wrong in an instruction hangs on a program's length and locks in one way alone. -/
theorem wrong_where (x : Ins) (n k : Int) (hn : 1 ≤ n) (h : (wrong x n k).1 ≠ 0) : (wrong x n k).2 = if (wrong x n k).1 = 13 then 4 else (wrong x 1 8).2 := by
  by_cases h0 : 0 ≤ x.op ∧ x.op < 34
  · by_cases ha : regE x.a (hA x.op) = 0
    · by_cases hb : regE x.b (hB x.op) = 0
      · by_cases hc : regE x.c (hC x.op) = 0
        · by_cases hi : immE x.op x.imm n k = 0
          · rw [wrong_no h0 ha hb hc hi] at h
            exact absurd rfl h
          · rw [wrong_i h0 ha hb hc hi]
            by_cases h13 : immE x.op x.imm n k = 13
            · rw [if_pos h13]
            · rw [if_neg h13, wrong_i h0 ha hb hc (immE_less hn hi h13)]
        · rw [wrong_c h0 ha hb hc, wrong_c h0 ha hb hc, if_neg (regE_13 _ _)]
      · rw [wrong_b h0 ha hb, wrong_b h0 ha hb, if_neg (regE_13 _ _)]
    · rw [wrong_a h0 ha, wrong_a h0 ha, if_neg (regE_13 _ _)]
  · rw [wrong_op h0, wrong_op h0]
    rfl

theorem wrong_none (x : Ins) (n k : Int) (h : (wrong x n k).1 = 0) : (wrong x n k).2 = 0 := by
  obtain ⟨h1, h2, h3, h4, h5, h6⟩ := wrong_ok h
  unfold wrong
  rw [if_neg (by omega), if_neg (by simp [h3]), if_neg (by simp [h4]), if_neg (by simp [h5]), if_neg (by simp [h6])]

theorem decR_one {bs : List Nat} (h : bs.length = 12) : (decR bs).2 = (wrong (getI bs 0) 1 8).2 := by
  unfold decR
  rw [if_neg (by omega), if_neg (by omega), h]
  show (decE bs 1 0 1).2 = _
  simp only [decE, Nat.mul_zero]
  by_cases hw : (wrong (getI bs 0) 1 8).1 = 0
  · rw [if_neg (by simp [hw]), wrong_none _ _ _ hw]
  · rw [if_pos (by simpa using hw)]
    simp

theorem Stage.ins {α : Type} {whole : Res α} {s : St} {bs : List Nat} {n k : Int} {g : Ins → Par α} (hn : 1 ≤ n) (h : Stage whole s (bind_ (insP n k) g bs s.nx)) (h0 : s.e = 0) (hs : s.nx ≤ bs.length) :
    Stage whole (insS bs n k s) (g (rawI bs s) bs (insS bs n k s).nx) := by
  obtain ⟨h1, h2⟩ := h.good h0
  unfold bind_ insP at h1
  unfold insS
  by_cases hl : bs.length < s.nx + 12
  · rw [if_pos hl] at h1
    obtain ⟨k1, k2⟩ := raw_short h0 hs hl
    rw [failS_bad (by rw [k1]; decide)]
    right
    rw [k1, k2]
    exact ⟨by decide, h1⟩
  · rw [if_neg hl] at h1
    obtain ⟨k1, k2, k3, k4⟩ := raw_full h0 (bs := bs) (by omega)
    rw [k1]
    by_cases hw : (wrong (getI bs s.nx) n k).1 = 0
    · rw [if_neg (by simp [hw])] at h1
      rw [hw, failS_ok]
      left
      exact ⟨k2, by rw [k3, h2], by rw [k4]; exact h1⟩
    · rw [if_pos (by simpa using hw)] at h1
      rw [failS_set k2 hw]
      right
      refine ⟨hw, ?_⟩
      rw [h1]
      simp only
      have : plI bs s (wrong (getI bs s.nx) n k).1 = (wrong (getI bs s.nx) n k).2 := by
        unfold plI
        rw [k4, decR_one (by rw [cut_len (by omega) (by omega)]; omega), get_cut, wrong_where _ n k hn hw]
      rw [this]
end Go.Proofs.YtmjokinagbpihaaDoor
