/- The shortest digits by trying: the same as the library's. -/
import Derived.Test.YtalaajniammggaaGreatDoorXMb
import Derived.Test.YtalaajniammggaaGreatDoorXEe
namespace Go.Proofs.YtalaajniammggaaGreatDoor
theorem rnd_half (X Y : Nat) (hY : 0 < Y) : rndU (unr (4 * X) Y) = if Y < 2 * (X % Y) ∨ (Y = 2 * (X % Y) ∧ X / Y % 2 = 1) then X / Y + 1 else X / Y := by
 have hd := Nat.div_add_mod X Y
 have hl := Nat.mod_lt X hY
 obtain ⟨q,hq⟩ : ∃ q,X / Y = q := ⟨_,rfl⟩
 obtain ⟨r,hr⟩ : ∃ r,X % Y = r := ⟨_,rfl⟩
 rw [hq,hr] at hd
 rw [hr] at hl
 rw [hq,hr]
 have e4 : 4 * X = 4 * r + Y * (4 * q) := by rw [← hd]; grind
 have ed : 4 * X / Y = 4 * r / Y + 4 * q := by rw [e4,Nat.add_mul_div_left _ _ hY]
 have em : 4 * X % Y = 4 * r % Y := by rw [e4,Nat.add_mul_mod_self_left]
 have fd := Nat.div_add_mod (4 * r) Y
 have fl := Nat.mod_lt (4 * r) hY
 obtain ⟨f,hf⟩ : ∃ f,4 * r / Y = f := ⟨_,rfl⟩
 obtain ⟨g,hg⟩ : ∃ g,4 * r % Y = g := ⟨_,rfl⟩
 rw [hf,hg] at fd
 rw [hg] at fl
 have f4 : f < 4 := by
  rcases Nat.lt_or_ge f 4 with h | h
  ·exact h
  ·exfalso
   have := Nat.mul_le_mul_left Y h
   omega
 unfold rndU unr
 rw [ed,em,hf,hg]
 clear hd e4 ed em hf hg hq hr
 have hf4 : f = 0 ∨ f = 1 ∨ f = 2 ∨ f = 3 := by omega
 rcases hf4 with rfl | rfl | rfl | rfl
 ·rw [if_neg (c := Y < 2 * r ∨ (Y = 2 * r ∧ q % 2 = 1)) (by omega)]
  by_cases hg0 : g = 0
  ·rw [if_pos hg0]; omega
  ·rw [if_neg hg0]; omega
 ·rw [if_neg (c := Y < 2 * r ∨ (Y = 2 * r ∧ q % 2 = 1)) (by omega)]
  by_cases hg0 : g = 0
  ·rw [if_pos hg0]; omega
  ·rw [if_neg hg0]; omega
 ·by_cases hg0 : g = 0
  ·rw [if_pos hg0]
   by_cases ho : q % 2 = 1
   ·rw [if_pos (by omega)]; omega
   ·rw [if_neg (by omega)]; omega
  ·rw [if_neg hg0,if_pos (by omega)]; omega
 ·rw [if_pos (c := Y < 2 * r ∨ (Y = 2 * r ∧ q % 2 = 1)) (by omega)]
  by_cases hg0 : g = 0
  ·rw [if_pos hg0]; omega
  ·rw [if_neg hg0]; omega
structure Sc (X Y low top : Nat) : Prop where
 pos : 0 < Y
 h1 : ∀ N,N * Y ≤ X → N ≤ top
 h2 : ∀ N,X ≤ N * Y → low ≤ N
 wid : top < low + 10
 ord : low ≤ top
 mid : low < top → low ≤ rndU (unr (4 * X) Y) ∧ rndU (unr (4 * X) Y) ≤ top
def goN (X Y low top : Nat) : Nat := if low ≤ top / 10 * 10 then top / 10 * 10 else if low < top then rndU (unr (4 * X) Y) else low
theorem one_or_two {X Y low top : Nat} (h : Sc X Y low top) (j N : Nat) (h1 : low ≤ N * 10 ^ j) (h2 : N * 10 ^ j ≤ top) :
  (low ≤ X / (Y * 10 ^ j) * 10 ^ j ∧ X / (Y * 10 ^ j) * 10 ^ j ≤ top) ∨ (low ≤ (X / (Y * 10 ^ j) + 1) * 10 ^ j ∧ (X / (Y * 10 ^ j) + 1) * 10 ^ j ≤ top) := by
 have hp := h.pos
 have hT : 0 < 10 ^ j := Nat.pow_pos (by decide)
 have hYT : 0 < Y * 10 ^ j := Nat.mul_pos hp hT
 have hd := Nat.div_add_mod X (Y * 10 ^ j)
 have hl := Nat.mod_lt X hYT
 obtain ⟨q,hq⟩ : ∃ q,X / (Y * 10 ^ j) = q := ⟨_,rfl⟩
 rw [hq] at hd ⊢
 by_cases hN : N ≤ q
 ·left
  refine ⟨Nat.le_trans h1 (Nat.mul_le_mul_right _ hN),h.h1 _ ?_⟩
  have e : q * 10 ^ j * Y = Y * 10 ^ j * q := by grind
  omega
 ·right
  refine ⟨h.h2 _ ?_,Nat.le_trans (Nat.mul_le_mul_right _ (by omega)) h2⟩
  have e : (q + 1) * 10 ^ j * Y = Y * 10 ^ j * q + Y * 10 ^ j := by grind
  omega
theorem pick_right {X Y low top : Nat} (h : Sc X Y low top) (j q : Nat) (hq : q = X / (Y * 10 ^ j)) (one two : Bool) (h1 : one = true ↔ low ≤ q * 10 ^ j ∧ q * 10 ^ j ≤ top) (h2 : two = true ↔ low ≤ (q + 1) * 10 ^ j ∧ (q + 1) * 10 ^ j ≤ top)
    (hit : one = true ∨ two = true) (no : j = 0 → ∀ a,¬ (low ≤ a * 10 ∧ a * 10 ≤ top)) (up : Bool) (hup : up = true ↔ Y * 10 ^ j < 2 * (X % (Y * 10 ^ j)) ∨ (Y * 10 ^ j = 2 * (X % (Y * 10 ^ j)) ∧ q % 2 = 1))
    (c : Nat) (hc : c = if one = false ∨ (two = true ∧ up = true) then q + 1 else q) : c * 10 ^ j = goN X Y low top := by
  have hin : low ≤ c * 10 ^ j ∧ c * 10 ^ j ≤ top := by
    rw [hc]
    split
    · rename_i hh
      rcases hh with hh | hh
      · rcases hit with h' | h'
        · rw [hh] at h'; exact absurd h' (by decide)
        · exact h2.1 h'
      · exact h2.1 hh.1
    · rename_i hh
      refine h1.1 ?_
      cases h9 : one with
      | true => rfl
      | false => exact absurd (Or.inl h9) hh
  cases j with
  | succ j =>
    have e : c * 10 ^ (j + 1) = c * 10 ^ j * 10 := by rw [Nat.pow_succ,Nat.mul_assoc]
    rw [e] at hin ⊢
    have hw := h.wid
    unfold goN
    rw [if_pos (by omega)]
    omega
  | zero =>
    have no := no rfl
    rw [Nat.pow_zero,Nat.mul_one] at hin ⊢
    simp only [Nat.pow_zero,Nat.mul_one] at h1 h2 hup hq
    unfold goN
    have hn : ¬ low ≤ top / 10 * 10 := fun hh => no (top / 10) ⟨hh,by omega⟩
    rw [if_neg hn]
    by_cases hlt : low < top
    · rw [if_pos hlt]
      have hm := h.mid hlt
      have hr := rnd_half X Y h.pos
      rw [← hq] at hr
      obtain ⟨M,hM⟩ : ∃ M,rndU (unr (4 * X) Y) = M := ⟨_,rfl⟩
      rw [hM] at hr hm ⊢
      by_cases hu : up = true
      · rw [if_pos (hup.1 hu)] at hr
        -- rounded up: the next one reads back
        have t2 : two = true := h2.2 (by rw [← hr]; exact hm)
        rw [hc,if_pos (.inr ⟨t2,hu⟩),hr]
      · rw [if_neg (fun hh => hu (hup.2 hh))] at hr
        have t1 : one = true := h1.2 (by rw [← hr]; exact hm)
        rw [hc, if_neg (by rintro (hh | hh); · rw [t1] at hh; exact absurd hh (by decide)
                           · exact hu hh.2),hr]
    · rw [if_neg hlt]
      have := h.ord
      omega
theorem trim_same {a b : Nat} (ha : a % 10 ≠ 0) (hb : b % 10 ≠ 0) : ∀ {m n : Nat},a * 10 ^ m = b * 10 ^ n → a = b ∧ m = n
 | 0,0,h => by simpa using h
 | 0,n + 1,h => by
  rw [Nat.pow_succ,← Nat.mul_assoc] at h
  simp only [Nat.pow_zero,Nat.mul_one] at h
  omega
 | m + 1,0,h => by
  rw [Nat.pow_succ,← Nat.mul_assoc] at h
  simp only [Nat.pow_zero,Nat.mul_one] at h
  omega
 | m + 1,n + 1,h => by
  rw [Nat.pow_succ,Nat.pow_succ,← Nat.mul_assoc,← Nat.mul_assoc] at h
  have := trim_same ha hb (m := m) (n := n) (by omega)
  omega
end Go.Proofs.YtalaajniammggaaGreatDoor

/- The shortest digits of a float, by trying. -/
namespace Go.Proofs.YtalaajniammggaaGreatDoor
def vX (m : Nat) (k s : Int) : Nat := m * 2 ^ k.toNat * 10 ^ (-s).toNat
def vY (k s : Int) : Nat := 10 ^ s.toNat * 2 ^ (-k).toNat
theorem vY_pos (k s : Int) : 0 < vY k s := Nat.mul_pos (ten_pos _) (two_pos _)
def PO (mant : Nat) (k : Int) : Int := 348 - (ix (skewOf mant k) k : Int)
def loO (mant : Nat) (k : Int) : Nat := lowD mant (skewOf mant k) (gOf mant k) (DOf mant k)
def tpO (mant : Nat) (k : Int) : Nat := topD mant (gOf mant k) (DOf mant k)
theorem frac_same {a1 b1 a2 b2 E F : Nat} (hE : 0 < E) (hF : 0 < F) (h1 : a1 * F = a2 * E) (h2 : b1 * F = b2 * E) :
  a1 / b1 = a2 / b2 ∧ (b1 < 2 * (a1 % b1) ↔ b2 < 2 * (a2 % b2)) ∧ (b1 = 2 * (a1 % b1) ↔ b2 = 2 * (a2 % b2)) := by
 have e1 : a1 / b1 = a2 / b2 := by rw [← Nat.mul_div_mul_right a1 b1 hF,h1,h2,Nat.mul_div_mul_right a2 b2 hE]
 have e2 : 2 * (a1 % b1) * F = 2 * (a2 % b2) * E := by
  rw [Nat.mul_assoc,Nat.mul_assoc,← Nat.mul_mod_mul_right,← Nat.mul_mod_mul_right,h1,h2]
 refine ⟨e1,cross_lt hE hF h2 e2,?_⟩
 constructor
 ·intro h
  exact Nat.le_antisymm ((cross_le hE hF h2 e2).1 (Nat.le_of_eq h)) ((cross_le hE hF e2 h2).1 (Nat.le_of_eq h.symm))
 ·intro h
  exact Nat.le_antisymm ((cross_le hE hF h2 e2).2 (Nat.le_of_eq h)) ((cross_le hE hF e2 h2).2 (Nat.le_of_eq h.symm))
theorem on_scale {mant : Nat} {k : Int} (h : Flo mant k) : ∃ E F,0 < E ∧ 0 < F ∧ vX mant k (PO mant k) * F = mant * gOf mant k * E ∧ vY k (PO mant k) * F = DOf mant k * E := by
 obtain ⟨_,_,hs,hu⟩ := s_facts h
 obtain ⟨E,F,hE,hF,h1,h2⟩ := row_eqs' (ix (skewOf mant k) k) mant 1 k (PO mant k) rfl (sft mant - 2) (128 + sOf mant k) (by rw [hs]; push_cast; omega)
 refine ⟨E,F,hE,hF,?_,?_⟩
 ·unfold vX
  rw [h1]
  unfold gOf
  rw [Nat.mul_assoc mant]
 ·unfold vY
  rw [Nat.one_mul,Nat.one_mul] at h2
  rw [h2]
  unfold DOf
  rw [Nat.pow_add]
  congr 1
  have e : (2 : Nat) ^ 128 = 340282366920938463463374607431768211456 := by decide
  rw [e,Nat.mul_comm]
theorem reads_at {mant : Nat} {k : Int} (h : Flo mant k) (N j : Nat) : Reads mant k (skewOf mant k) N (PO mant k + j) ↔ loO mant k ≤ N * 10 ^ j ∧ N * 10 ^ j ≤ tpO mant k := by
 obtain ⟨_,_,hs,hu⟩ := s_facts h
 have key : InI mant (skewOf mant k) (gOf mant k) (DOf mant k) (N * 10 ^ j) ↔ Reads mant k (skewOf mant k) (N * 10 ^ j) (348 - (ix (skewOf mant k) k : Int)) := by
  have := reads_in (mant := mant) (k := k) (skew := skewOf mant k) (i := ix (skewOf mant k) k) (u := up (skewOf mant k) k) (s := sOf mant k) hu (N * 10 ^ j)
  unfold gOf DOf
  rw [hs]
  exact this
 rw [← reads_ten]
 unfold PO loO tpO
 rw [← key,in_iff (fits_of h)]
theorem sc_of {mant : Nat} {k : Int} (h : Flo mant k) : Sc (vX mant k (PO mant k)) (vY k (PO mant k)) (loO mant k) (tpO mant k) := by
 have F := fits_of h
 have hp := F.pos
 have hg := F.gpos
 obtain ⟨E,Q,hE,hQ,h1,h2⟩ := on_scale h
 have hX : ∀ N,(N * vY k (PO mant k)) * Q = (N * DOf mant k) * E := fun N => by rw [Nat.mul_assoc,h2,Nat.mul_assoc]
 have hord := low_le_top F
 have clt : cl mant (skewOf mant k) < 4 * mant := by
  have := h.one
  unfold cl
  cases skewOf mant k
  ·show 4 * mant - 2 < _; omega
  ·show 4 * mant - 1 < _; omega
 refine ⟨vY_pos _ _,?_,?_,?_,hord,?_⟩
 ·intro N hN
  have hN' : N * DOf mant k ≤ mant * gOf mant k := (cross_le hE hQ (hX N) h1).1 hN
  have e4 : 4 * N * DOf mant k = 4 * (N * DOf mant k) := Nat.mul_assoc ..
  have e5 : (4 * mant + 2) * gOf mant k = 4 * (mant * gOf mant k) + 2 * gOf mant k := by rw [Nat.add_mul,Nat.mul_assoc]
  unfold tpO topD
  by_cases hm : mant % 2 = 0
  ·rw [hm]; exact (top_even hp N).1 (by omega)
  ·rw [show mant % 2 = 1 by omega]; exact (top_odd hp (Nat.mul_pos (by omega) hg) N).1 (by omega)
 ·intro N hN
  have hN' : mant * gOf mant k ≤ N * DOf mant k := (cross_le hE hQ h1 (hX N)).1 hN
  have e4 : 4 * N * DOf mant k = 4 * (N * DOf mant k) := Nat.mul_assoc ..
  have e5 : cl mant (skewOf mant k) * gOf mant k < 4 * (mant * gOf mant k) := by
   rw [← Nat.mul_assoc]; exact Nat.mul_lt_mul_of_pos_right clt hg
  unfold loO lowD
  by_cases hm : mant % 2 = 0
  ·rw [hm]; exact (low_even hp N).1 (by omega)
  ·rw [show mant % 2 = 1 by omega]; exact (low_odd hp N).1 (by omega)
 ·-- the width
  have i1 := (in_iff F (lowD mant (skewOf mant k) (gOf mant k) (DOf mant k))).2 ⟨Nat.le_refl _,hord⟩
  have i2 := (in_iff F (topD mant (gOf mant k) (DOf mant k))).2 ⟨hord,Nat.le_refl _⟩
  have l1 : cl mant (skewOf mant k) * gOf mant k ≤ 4 * lowD mant (skewOf mant k) (gOf mant k) (DOf mant k) * DOf mant k := by
   unfold InI at i1
   split at i1
   ·exact i1.1
   ·exact Nat.le_of_lt i1.1
  have l2 : 4 * topD mant (gOf mant k) (DOf mant k) * DOf mant k ≤ (4 * mant + 2) * gOf mant k := by
   unfold InI at i2
   split at i2
   ·exact i2.2
   ·exact Nat.le_of_lt i2.2
  have wd2 : (4 * mant + 2) * gOf mant k < cl mant (skewOf mant k) * gOf mant k + 40 * DOf mant k := by
   cases hsk : skewOf mant k with
   | false =>
    have := (F.plain hsk).2
    have e : (4 * mant + 2) * gOf mant k = cl mant false * gOf mant k + 4 * gOf mant k := by
     rw [← Nat.add_mul]; congr 1; unfold cl; show 4 * mant + 2 = 4 * mant - 2 + 4; have := h.one; omega
    omega
   | true =>
    have := (F.skewed hsk).2.1
    have e : (4 * mant + 2) * gOf mant k = cl mant true * gOf mant k + 3 * gOf mant k := by
     rw [← Nat.add_mul]; congr 1; unfold cl; show 4 * mant + 2 = 4 * mant - 1 + 3; have := h.one; omega
    omega
  unfold tpO loO
  obtain ⟨lo,hlo⟩ : ∃ x,lowD mant (skewOf mant k) (gOf mant k) (DOf mant k) = x := ⟨_,rfl⟩
  obtain ⟨tp,htp⟩ : ∃ x,topD mant (gOf mant k) (DOf mant k) = x := ⟨_,rfl⟩
  rw [hlo] at l1 ⊢
  rw [htp] at l2 ⊢
  rcases Nat.lt_or_ge tp (lo + 10) with hc | hc
  ·exact hc
  ·exfalso
   have m1 : 4 * (lo + 10) * DOf mant k ≤ 4 * tp * DOf mant k := Nat.mul_le_mul_right _ (by omega)
   have e : 4 * (lo + 10) * DOf mant k = 4 * lo * DOf mant k + 40 * DOf mant k := by rw [← Nat.add_mul]; congr 1
   omega
 ·intro hlt
  have hi := (in_iff F _).1 (mid_in F hlt)
  have e : midD mant (gOf mant k) (DOf mant k) = rndU (unr (4 * vX mant k (PO mant k)) (vY k (PO mant k))) := by
   unfold midD
   congr 1
   rw [← unr_scale (4 * mant * gOf mant k) (DOf mant k) E hE,← unr_scale (4 * vX mant k (PO mant k)) (vY k (PO mant k)) Q hQ,h2,Nat.mul_assoc 4 (vX mant k (PO mant k)),h1]
   congr 1
   grind
  rw [← e]
  exact hi
theorem go_short {mant : Nat} {k : Int} (h : Flo mant k) : ∃ f : Nat,f ≤ 1 ∧ goN (vX mant k (PO mant k)) (vY k (PO mant k)) (loO mant k) (tpO mant k) = (shortM mant k).1 * 10 ^ f ∧ (shortM mant k).2 = PO mant k + f := by
 obtain ⟨E,Q,hE,hQ,h1,h2⟩ := on_scale h
 have e : midD mant (gOf mant k) (DOf mant k) = rndU (unr (4 * vX mant k (PO mant k)) (vY k (PO mant k))) := by
  unfold midD
  congr 1
  rw [← unr_scale (4 * mant * gOf mant k) (DOf mant k) E hE,← unr_scale (4 * vX mant k (PO mant k)) (vY k (PO mant k)) Q hQ,h2,Nat.mul_assoc 4 (vX mant k (PO mant k)),h1]
  congr 1
  grind
 unfold goN shortM shortD loO tpO PO
 by_cases c1 : lowD mant (skewOf mant k) (gOf mant k) (DOf mant k) ≤ topD mant (gOf mant k) (DOf mant k) / 10 * 10
 ·rw [if_pos c1,if_pos c1]
  exact ⟨1,by omega,by simp,by simp⟩
 ·rw [if_neg c1,if_neg c1]
  by_cases c2 : lowD mant (skewOf mant k) (gOf mant k) (DOf mant k) < topD mant (gOf mant k) (DOf mant k)
  ·rw [if_pos c2,if_pos c2]
   refine ⟨0,by omega,?_,by simp⟩
   unfold PO at e
   rw [← e]
   simp
  ·rw [if_neg c2,if_neg c2]
   exact ⟨0,by omega,by simp,by simp⟩
theorem scale_up (mant : Nat) (k : Int) (P : Int) (j : Nat) : vX mant k (P + j) / vY k (P + j) = vX mant k P / (vY k P * 10 ^ j) ∧ (vY k (P + j) < 2 * (vX mant k (P + j) % vY k (P + j)) ↔ vY k P * 10 ^ j < 2 * (vX mant k P % (vY k P * 10 ^ j))) ∧ (vY k (P + j) = 2 * (vX mant k (P + j) % vY k (P + j)) ↔ vY k P * 10 ^ j = 2 * (vX mant k P % (vY k P * 10 ^ j))) := by
 obtain ⟨E,F,hE,hF,h1,h2⟩ := ten_eqs mant 1 j k P
 have h1' : vX mant k (P + j) * E = vX mant k P * F := h1.symm
 have h2' : vY k (P + j) * E = vY k P * 10 ^ j * F := by
  unfold vY
  rw [Nat.one_mul,Nat.one_mul] at h2
  rw [← h2]
  grind
 exact frac_same hF hE h1' h2'
end Go.Proofs.YtalaajniammggaaGreatDoor

/- The document's shortest digits are those that the library tells. -/
namespace Go.Proofs.YtalaajniammggaaGreatDoor
theorem lt_scale (m : Nat) (k s : Int) (j : Nat) : vX m k (s + j) < vY k (s + j) ↔ vX m k s < vY k s * 10 ^ j := by
 obtain ⟨E,F,hE,hF,h1,h2⟩ := ten_eqs m 1 j k s
 have h2' : vY k s * 10 ^ j * F = vY k (s + j) * E := by
  unfold vY
  rw [Nat.one_mul,Nat.one_mul] at h2
  rw [← h2]
  grind
 exact (cross_lt hE hF h1 h2').symm
theorem scale_lo {mant : Nat} {k : Int} (h : Flo mant k) : vY k (PO mant k) ≤ vX mant k (PO mant k) := by
 have F := fits_of h
 obtain ⟨E,Q,hE,hQ,h1,h2⟩ := on_scale h
 refine (cross_le hE hQ h2 h1).2 ?_
 have h3 := Nat.mul_le_mul_right (gOf mant k) h.one
 rw [Nat.one_mul] at h3
 cases hsk : skewOf mant k with
 | false => have := (F.plain hsk).1; omega
 | true => have := (F.skewed hsk).1; omega
theorem scale_hi {mant : Nat} {k : Int} (h : Flo mant k) : vX mant k (PO mant k) < vY k (PO mant k) * 10 ^ 17 := by
 have F := fits_of h
 obtain ⟨E,Q,hE,hQ,h1,h2⟩ := on_scale h
 have h2' : vY k (PO mant k) * 10 ^ 17 * Q = DOf mant k * 10 ^ 17 * E := by
  rw [Nat.mul_right_comm,h2,Nat.mul_right_comm]
 refine (cross_lt hE hQ h1 h2').2 ?_
 have e17 : (10 : Nat) ^ 17 = 100000000000000000 := by decide
 rw [e17]
 have hp := F.pos
 have ht := h.top
 cases hsk : skewOf mant k with
 | false =>
  have := (F.plain hsk).2
  have h3 : mant * gOf mant k ≤ 9007199254740991 * gOf mant k := Nat.mul_le_mul_right _ (by omega)
  omega
 | true =>
  have h4 := F.skewed hsk
  have h5 := Nat.mul_le_mul_right (gOf mant k) (Nat.le_of_eq h4.2.2)
  omega
set_option maxRecDepth 100000 in
theorem sub_fact : 10 * (Td (ix false (-1074)) * 340282366920938463463374607431768211456) ≤ 3 * (Tn (ix false (-1074)) * 2 ^ up false (-1074)) := by
 apply Nat.le_of_ble_eq_true
 decide +kernel
theorem not_skew {mant : Nat} : skewOf mant (-1074) = false := by
 unfold skewOf
 simp
theorem scale_ten {mant : Nat} {k : Int} (h : Flo mant k) (hm : 3 ≤ mant ∨ k ≠ -1074) : vY k (PO mant k) * 10 ^ 1 ≤ vX mant k (PO mant k) := by
 have F := fits_of h
 obtain ⟨E,Q,hE,hQ,h1,h2⟩ := on_scale h
 have h2' : vY k (PO mant k) * 10 ^ 1 * Q = DOf mant k * 10 * E := by
  rw [Nat.pow_one,Nat.mul_right_comm,h2,Nat.mul_right_comm]
 refine (cross_le hE hQ h2' h1).2 ?_
 by_cases hk : k = -1074
 ·have h3 : 3 ≤ mant := by
   rcases hm with hm | hm
   ·exact hm
   ·exact absurd hk hm
  subst hk
  obtain ⟨_,_,hs,_⟩ := s_facts h
  have eg : gOf mant (-1074) = Tn (ix false (-1074)) * 2 ^ up false (-1074) * 2 ^ sOf mant (-1074) := by
   unfold gOf; rw [hs,not_skew,Nat.pow_add,Nat.mul_assoc]
  have eD : DOf mant (-1074) = Td (ix false (-1074)) * 340282366920938463463374607431768211456 * 2 ^ sOf mant (-1074) := by
   unfold DOf; rw [not_skew,Nat.mul_assoc]
  have h4 : 3 * gOf mant (-1074) ≤ mant * gOf mant (-1074) := Nat.mul_le_mul_right _ h3
  have h5 := Nat.mul_le_mul_right (2 ^ sOf mant (-1074)) sub_fact
  rw [Nat.mul_assoc 10,← eD,Nat.mul_assoc 3,← eg] at h5
  omega
 ·have h3 : 4503599627370496 ≤ mant := by
   rcases h.norm with hn | hn
   ·exact absurd hn hk
   ·exact hn
  have h4 : 10 * gOf mant k ≤ mant * gOf mant k := Nat.mul_le_mul_right _ (by omega)
  cases hsk : skewOf mant k with
  | false => have := (F.plain hsk).1; omega
  | true => have := (F.skewed hsk).1; omega
theorem top_bounds {mant : Nat} {k : Int} (h : Flo mant k) {e : Int} (h1 : vY k e ≤ vX mant k e) (h2 : vX mant k (e + 1) < vY k (e + 1)) : PO mant k ≤ e ∧ e ≤ PO mant k + 16 ∧ (3 ≤ mant ∨ k ≠ -1074 → PO mant k + 1 ≤ e) := by
 have key : ∀ s t : Int,vY k s ≤ vX mant k s → vX mant k t < vY k t → s < t := by
  intro s t hs ht
  rcases Int.lt_or_le s t with hc | hc
  ·exact hc
  ·exfalso
   obtain ⟨j,rfl⟩ : ∃ j : Nat,s = t + j := ⟨(s - t).toNat,by omega⟩
   have h3 : vX mant k (t + j) < vY k (t + j) := (lt_scale mant k t j).2 (Nat.lt_of_lt_of_le ht (Nat.le_mul_of_pos_right _ (ten_pos j)))
   omega
 have a := key _ _ (scale_lo h) h2
 have b := key _ _ h1 ((lt_scale mant k (PO mant k) 17).2 (scale_hi h))
 refine ⟨by omega,by push_cast at b; omega,fun hm => ?_⟩
 have hten := scale_ten h hm
 have hnt : vY k (PO mant k + (1 : Nat)) ≤ vX mant k (PO mant k + (1 : Nat)) := by
  rcases Nat.lt_or_ge (vX mant k (PO mant k + (1 : Nat))) (vY k (PO mant k + (1 : Nat))) with hc | hc
  ·have := (lt_scale mant k (PO mant k) 1).1 hc
   omega
  ·exact hc
 have c := key _ _ hnt h2
 push_cast at c
 omega
set_option maxRecDepth 100000 in
theorem one_free : ∀ a : Nat,¬ (loO 1 (-1074) ≤ a * 10 ∧ a * 10 ≤ tpO 1 (-1074)) := by
 have h1 : loO 1 (-1074) = 3 := by decide +kernel
 have h2 : tpO 1 (-1074) = 7 := by decide +kernel
 intro a
 rw [h1,h2]
 omega
theorem take_right {mant : Nat} {k : Int} (h : Flo mant k) (j q : Nat) (hq : q = vX mant k (PO mant k + j) / vY k (PO mant k + j)) (one two : Bool) (h1 : one = true ↔ Reads mant k (skewOf mant k) q (PO mant k + j)) (h2 : two = true ↔ Reads mant k (skewOf mant k) (q + 1) (PO mant k + j))
  (hit : one = true ∨ two = true) (no : j = 0 → 3 ≤ mant ∨ k ≠ -1074 → ∀ a,¬ Reads mant k (skewOf mant k) a (PO mant k + (1 : Nat))) (up : Bool) (hup : up = true ↔ vY k (PO mant k + j) < 2 * (vX mant k (PO mant k + j) % vY k (PO mant k + j)) ∨ (vY k (PO mant k + j) = 2 * (vX mant k (PO mant k + j) % vY k (PO mant k + j)) ∧ q % 2 = 1))
  (c : Nat) (hc : c = if one = false ∨ (two = true ∧ up = true) then q + 1 else q) : c * 10 ^ j = goN (vX mant k (PO mant k)) (vY k (PO mant k)) (loO mant k) (tpO mant k) := by
 obtain ⟨s1,s2,s3⟩ := scale_up mant k (PO mant k) j
 by_cases sp : j = 0 ∧ mant = 2 ∧ k = -1074
 ·obtain ⟨rfl,rfl,rfl⟩ := sp
  have lo2 : loO 2 (-1074) = 8 := by decide +kernel
  have tp2 : tpO 2 (-1074) = 12 := by decide +kernel
  have q9 : vX 2 (-1074) (PO 2 (-1074)) / (vY (-1074) (PO 2 (-1074)) * 10 ^ 0) = 9 := by decide +kernel
  have u9 : vY (-1074) (PO 2 (-1074)) * 10 ^ 0 < 2 * (vX 2 (-1074) (PO 2 (-1074)) % (vY (-1074) (PO 2 (-1074)) * 10 ^ 0)) := by
   apply Nat.le_of_ble_eq_true
   decide +kernel
  rw [s1,q9] at hq
  have t2 : two = true := h2.2 ((reads_at h (q + 1) 0).2 (by rw [lo2,tp2,hq]; decide))
  have tu : up = true := hup.2 (.inl (s2.2 u9))
  rw [hc,if_pos (.inr ⟨t2,tu⟩),hq]
  unfold goN
  rw [lo2,tp2]
  rfl
 ·refine pick_right (sc_of h) j q (hq.trans s1) one two (h1.trans (reads_at h q j)) (h2.trans (reads_at h (q + 1) j)) hit (fun hj a => ?_) up (hup.trans ?_) c hc
  ·by_cases hm : 3 ≤ mant ∨ k ≠ -1074
   ·have := no hj hm a
    rw [reads_at h a 1,Nat.pow_one] at this
    exact this
   ·have hk : k = -1074 := Classical.byContradiction fun hk => hm (.inr hk)
    have hm1 : mant = 1 := by
     have := h.one
     rcases Nat.lt_or_ge mant 3 with hc3 | hc3
     ·have : mant ≠ 2 := fun e => sp ⟨hj,e,hk⟩
      omega
     ·exact absurd (Or.inl hc3) hm
    subst hk hm1
    exact one_free a
  ·rw [s2,s3]
theorem nzd_last : ∀ (n d : Nat),1 ≤ d → d < 10 ^ n → d / 10 ^ (n - nzd d n) % 10 ≠ 0
 | 0,d,h1,h2 => by simp at h2; omega
 | n + 1,d,h1,h2 => by
  unfold nzd
  by_cases h : d % 10 = 0
  ·rw [if_pos h]
   have h3 : d / 10 < 10 ^ n := by rw [Nat.pow_succ] at h2; omega
   have ih := nzd_last n (d / 10) (by omega) h3
   have hle := nzd_le n (d / 10)
   rw [show n + 1 - nzd (d / 10) n = (n - nzd (d / 10) n) + 1 by omega,Nat.pow_succ,Nat.mul_comm,← Nat.div_div_eq_div_mul]
   exact ih
  ·rw [if_neg h,Nat.sub_self,Nat.pow_zero,Nat.div_one]
   exact h
theorem dF_facts {x : Nat} (h0 : rungOf x ≠ 0) (hf : rungOf x < INF) : ∃ m : Nat,(shortM (magOf (rungOf x)) ((expOf (rungOf x) : Int) - 1074)).1 = dF x * 10 ^ m ∧ pF x = (shortM (magOf (rungOf x)) ((expOf (rungOf x) : Int) - 1074)).2 + m ∧ dF x % 10 ≠ 0 ∧ nF x = Lib.nDigits (dF x) := by
  have FL := flo_of h0 hf
  obtain ⟨f1,f2,f3,f4⟩ := shortM_bounds FL
  have e : shortOf x = shortM (magOf (rungOf x)) ((expOf (rungOf x) : Int) - 1074) := by unfold shortOf; rw [if_neg h0]
  rw [← e] at f1 f2 f3 f4 ⊢
  have n1 := Lib.nDigits_pos (shortOf x).1
  have z1 := nzd_pos _ (shortOf x).1 f1 (Lib.lt_pow_nDigits _)
  have z2 := nzd_le (Lib.nDigits (shortOf x).1) (shortOf x).1
  have en : nF x = nzd (shortOf x).1 (Lib.nDigits (shortOf x).1) := by unfold nF; rw [if_neg h0]
  have eX : XF x = (Lib.nDigits (shortOf x).1 : Int) + (shortOf x).2 - 1 := by unfold XF; rw [if_neg h0]
  have eg : gF x = gOfD (shortOf x).1 := by unfold gF; rw [if_neg h0]
  have ed : dF x = (shortOf x).1 / 10 ^ (Lib.nDigits (shortOf x).1 - nF x) := by
    unfold dF
    rw [eg]
    exact val_first _ _ (by omega)
  have hs := nzd_spec (Lib.nDigits (shortOf x).1) (shortOf x).1
  have hl := nzd_last (Lib.nDigits (shortOf x).1) (shortOf x).1 f1 (Lib.lt_pow_nDigits _)
  rw [← en] at hs hl z1 z2
  rw [← ed] at hs hl
  refine ⟨Lib.nDigits (shortOf x).1 - nF x,hs,by unfold pF; rw [eX]; omega,hl,?_⟩
  -- how many digits are left
  have hlt := Lib.lt_pow_nDigits (shortOf x).1
  have hge := pow_le_n (shortOf x).1 f1
  obtain ⟨M,hM⟩ : ∃ M,Lib.nDigits (shortOf x).1 - nF x = M := ⟨_,rfl⟩
  rw [hM] at hs
  rw [show Lib.nDigits (shortOf x).1 = nF x + M by omega,Nat.pow_add,hs] at hlt
  rw [show Lib.nDigits (shortOf x).1 - 1 = (nF x - 1) + M by omega,Nat.pow_add,hs] at hge
  have hT := ten_pos M
  have l1 : dF x < 10 ^ nF x := Nat.lt_of_mul_lt_mul_right hlt
  have l2 : 10 ^ (nF x - 1) ≤ dF x := Nat.le_of_mul_le_mul_right hge hT
  have := Lib.nDigits_unique (nF x - 1) (dF x) l2 (by rw [show nF x - 1 + 1 = nF x by omega]; exact l1)
  omega
theorem take_digits {x : Nat} (h0 : rungOf x ≠ 0) (hf : rungOf x < INF) {c j : Nat} (hc : c * 10 ^ j = goN (vX (magOf (rungOf x)) ((expOf (rungOf x) : Int) - 1074) (PO (magOf (rungOf x)) ((expOf (rungOf x) : Int) - 1074))) (vY ((expOf (rungOf x) : Int) - 1074) (PO (magOf (rungOf x)) ((expOf (rungOf x) : Int) - 1074))) (loO (magOf (rungOf x)) ((expOf (rungOf x) : Int) - 1074)) (tpO (magOf (rungOf x)) ((expOf (rungOf x) : Int) - 1074)))
  {a t : Nat} (ha : c = a * 10 ^ t) (hl : a % 10 ≠ 0) : a = dF x ∧ PO (magOf (rungOf x)) ((expOf (rungOf x) : Int) - 1074) + j + t = pF x := by
 obtain ⟨m,e1,e2,e3,_⟩ := dF_facts h0 hf
 obtain ⟨f,hf1,g1,g2⟩ := go_short (flo_of h0 hf)
 rw [g1,e1,ha,Nat.mul_assoc,Nat.mul_assoc,← Nat.pow_add,← Nat.pow_add] at hc
 obtain ⟨r1,r2⟩ := trim_same hl e3 hc
 refine ⟨r1,?_⟩
 rw [e2,g2]
 omega
end Go.Proofs.YtalaajniammggaaGreatDoor
