/- LaneOrder, plainly: the numbers from 0 on go in, and come out. -/
import Derived.Test.YthldnbikephncaaLM1
namespace Go.Proofs.Ythldnbikephncaa

/-- The numbers from a on, below b. -/
def rg (a b : Nat) : List Int := (List.range' a (b - a)).map (fun (i : Nat) => (i : Int))
theorem rg_len (a b : Nat) : (rg a b).length = b - a := by simp [rg]
theorem rg_nil (a : Nat) : rg a a = [] := by simp [rg]
theorem rg_cons {a b : Nat} (h : a < b) : rg a b = (a : Int) :: rg (a + 1) b := by
  unfold rg
  rw [show b - a = (b - (a + 1)) + 1 by omega, List.range'_succ, List.map_cons]
theorem rg_snoc {a b : Nat} (h : a ≤ b) : rg a (b + 1) = rg a b ++ [(b : Int)] := by
  unfold rg
  rw [show b + 1 - a = (b - a) + 1 by omega, List.range'_1_concat, List.map_append, show a + (b - a) = b by omega]
  rfl
theorem rg_mem {a b : Nat} {x : Int} (h : x ∈ rg a b) : (a : Int) ≤ x ∧ x < b := by
  unfold rg at h
  obtain ⟨i, hi, rfl⟩ := List.mem_map.mp h
  rw [List.mem_range'_1] at hi
  omega

/-- Those below L went in, those below t came out, those from L on below n wait. -/
def ordS (room t L n : Nat) (tk : Int) : LS := ⟨room, rg t L, (rg L n).map (fun i => (i, i)), tk, 0⟩
structure Ord (room t L n : Nat) : Prop where
  r1 : 1 ≤ room
  tL : t ≤ L
  Ln : L ≤ n
  le : L - t ≤ room
  full : L < n → L - t = room

theorem ord_len (room t L n : Nat) (tk : Int) : (ordS room t L n tk).vs.length = L - t := rg_len t L
theorem ord_wlen (room t L n : Nat) (tk : Int) : (ordS room t L n tk).ws.length = n - L := by simp [ordS, rg_len]
theorem ord_new (room : Nat) : (⟨room, [], [], 0, 0⟩ : LS) = ordS room 0 0 0 0 := by simp [ordS, rg_nil]

theorem ord_put_full {room t L n : Nat} (h : L - t = room) (tk v : Int) : putL (ordS room t L n tk) v = (19, ordS room t L n tk) := by
  unfold putL
  rw [if_pos (by rw [ord_len]; exact h)]
theorem ord_put_room {room t n : Nat} (h : t ≤ n) (hr : n - t ≠ room) (tk : Int) : putL (ordS room t n n tk) n = (0, ordS room t (n + 1) (n + 1) tk) := by
  unfold putL
  rw [if_neg (by rw [ord_len]; exact hr)]
  simp [ordS, rg_snoc h, rg_nil]
theorem ord_wait {room t L n : Nat} (h : L - t = room) (hn : L ≤ n) (tk : Int) : waitL (ordS room t L n tk) n n = (0, ordS room t L (n + 1) tk) := by
  unfold waitL
  have hi : idxL (ordS room t L n tk).ws n = -1 := idxL_none (fun j hj => by
    rw [ord_wlen] at hj
    have hm : ((ordS room t L n tk).ws.getD j (0, 0)) ∈ (ordS room t L n tk).ws := by
      rw [List.getD_eq_getElem?_getD, List.getElem?_eq_getElem (by rw [ord_wlen]; exact hj)]
      exact List.getElem_mem _
    obtain ⟨x, hx, e⟩ := List.mem_map.mp hm
    rw [← e]
    have := rg_mem hx
    simp only
    omega)
  rw [if_pos (by rw [ord_len]; exact h), hi, if_neg (by omega)]
  simp [ordS, rg_snoc hn]
theorem ord_take_none {room n : Nat} (tk : Int) : takeL (ordS room n n n tk) = ((0, (0, 0), false, 21), ordS room n n n tk) := by
  unfold takeL
  simp [ordS, rg_nil]
theorem ord_take_alone {room t n : Nat} (h : t < n) (tk : Int) : takeL (ordS room t n n tk) = (((t : Int), (0, 0), false, 0), ordS room (t + 1) n n (moreL tk)) := by
  unfold takeL
  simp [ordS, rg_nil, rg_cons h]
theorem ord_take_let {room t L n : Nat} (h : t < L) (hn : L < n) (tk : Int) : takeL (ordS room t L n tk) = (((t : Int), ((L : Int), (L : Int)), true, 0), ordS room (t + 1) (L + 1) n (moreL tk)) := by
  unfold takeL
  simp [ordS, rg_cons h, rg_cons hn, rg_snoc (show t + 1 ≤ L by omega)]
end Go.Proofs.Ythldnbikephncaa
