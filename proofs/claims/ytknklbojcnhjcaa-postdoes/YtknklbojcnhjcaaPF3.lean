/- PostFair's walk. -/
import Derived.Test.YtknklbojcnhjcaaPF2
namespace Go.Proofs.Ytknklbojcnhjcaa
open Go.RowKit

/-- Why Lay refuses. -/
def LayErr (room : Int) (l : List TLn) (cursor er : Int) : Prop :=
  (mayP l.length room = false ∧ er = 1) ∨ (mayP l.length room = true ∧ (cursor < 0 ∨ (l.length : Int) ≤ cursor) ∧ er = 2) ∨ (mayP l.length room = true ∧ (0 ≤ cursor ∧ cursor < (l.length : Int)) ∧ (∃ t ∈ l, ¬ MayL room t.vs t.ws t.tk t.dr) ∧ er = 4)
theorem LayErr.ne {room : Int} {l : List TLn} {cursor er : Int} (h : LayErr room l cursor er) : er ≠ 0 := by
  rcases h with ⟨_, h⟩ | ⟨_, _, h⟩ | ⟨_, _, _, h⟩ <;> omega
/-- How a post may be laid. -/
structure LayMay (room : Int) (l : List TLn) (cursor : Int) (R cur : Nat) : Prop where
  room : room = (R : Int)
  cursor : cursor = (cur : Int)
  n1 : 1 ≤ l.length
  n2 : l.length ≤ 9
  r1 : 1 ≤ R
  r2 : R ≤ 64
  cu : cur < l.length
  may : ∀ t ∈ l, MayL R t.vs t.ws t.tk t.dr
/-- What Lay tells, whatever it is given. -/
def LayR (w : World) (TP TL TE : TypeId) (room : Int) (l : List TLn) (cursor : Int) (E : Ending) (w' : World) : Prop :=
  (∃ er, LayErr room l cursor er ∧ Refused w er E w') ∨ ∃ R cur, LayMay room l cursor R cur ∧ MadeP w TP TL TE (l.map (·.ls R)) cur E w'

theorem mayP_yes {n room : Int} (h : mayP n room = true) : (1 ≤ n ∧ n ≤ 9) ∧ 1 ≤ room ∧ room ≤ 64 := by simpa [mayP] using h
theorem play_all {room cursor : Int} {a : Option Addr} {l : List TLn} {c : Nat} {w : World} (hA : ALs w a l) (hf : FitT l) :
    Calls Try.prog 8 #[.int .i64 room, .slice a l.length c, .int .i64 cursor] w (LayR w 59 89 60 room l cursor) := by
  cases hm : mayP l.length room with
  | false => exact (play_arg hm).mono (fun e w' h => .inl ⟨1, .inl ⟨hm, rfl⟩, h⟩)
  | true =>
    by_cases hc : cursor < 0 ∨ (l.length : Int) ≤ cursor
    · exact (play_range hm hc).mono (fun e w' h => .inl ⟨2, .inr (.inl ⟨hm, hc, rfl⟩), h⟩)
    · have h1 := mayP_yes hm
      obtain ⟨R, rfl⟩ : ∃ R : Nat, room = R := ⟨room.toNat, by omega⟩
      obtain ⟨cur, rfl⟩ : ∃ cur : Nat, cursor = cur := ⟨cursor.toNat, by omega⟩
      refine (play_any hA (by omega) (by omega) (by omega) (by omega) (by omega) hf).mono (fun e w' h => ?_)
      rcases h with ⟨h2, h3⟩ | ⟨h2, h3⟩
      · exact .inr ⟨R, cur, ⟨rfl, rfl, by omega, by omega, by omega, by omega, by omega, h2⟩, h3⟩
      · exact .inl ⟨4, .inr (.inr ⟨hm, by omega, h2, rfl⟩), h3⟩

/-- Lanes of the call's own, and other blocks of its own that stay as they were at wz. -/
def LivZ (B : Nat) (w0 w : World) (b : Nat) (ss : List LS) (cur : Nat) (Z : Nat → Prop) (wz : World) : Prop :=
  ∃ F, Ps w 59 89 60 b F ss cur ∧ (∀ k, F k → B ≤ k ∧ ¬ Z k) ∧ Below B w0 w ∧ B ≤ w.heap.size ∧ ∀ k, Z k → k < w.heap.size ∧ w.heap[k]? = wz.heap[k]?
section
variable {B : Nat} {w0 w w' : World} {b : Nat} {ss : List LS} {cur : Nat} {Z : Nat → Prop} {wz : World}
theorem LivP.z (h : LivP B w0 w b ss cur) (hb : Below w.heap.size w wz) (hZ : ∀ k, Z k → w.heap.size ≤ k ∧ k < wz.heap.size) : LivZ B w0 wz b ss cur Z wz := by
  obtain ⟨F, h1, h2, h3, h4⟩ := h
  exact ⟨F, h1.below hb, fun k hk => ⟨h2 k hk, fun hz => by have := h1.lt k hk; have := (hZ k hz).1; omega⟩, h3.trans (hb.mono h4), Nat.le_trans h4 hb.size, fun k hk => ⟨(hZ k hk).2, rfl⟩⟩
theorem LivZ.out {F : Nat → Prop} (hL : ∀ k, F k → B ≤ k ∧ ¬ Z k) (hb : Below B w0 w) (hB : B ≤ w.heap.size) (hZ : ∀ k, Z k → k < w.heap.size ∧ w.heap[k]? = wz.heap[k]?) (h : PsOut w 59 89 60 b F ss cur w') : LivZ B w0 w' b ss cur Z wz := by
  obtain ⟨h1, F', h2, h3⟩ := h
  refine ⟨F', h2, fun k hk => ?_, hb.trans (h1.below hB (fun k _ hk => (hL k hk).1)), Nat.le_trans hB h1.size, fun k hk => ⟨Nat.lt_of_lt_of_le (hZ k hk).1 h1.size, (h1.block k (hZ k hk).1 (fun hf => (hL k hf).2 hk)).trans (hZ k hk).2⟩⟩
  rcases h3 k hk with h | h
  · exact hL k h
  · exact ⟨by omega, fun hz => by have := (hZ k hz).1; omega⟩
theorem LivZ.bel (h : LivZ B w0 w b ss cur Z wz) (hb : Below w.heap.size w w') : LivZ B w0 w' b ss cur Z wz := by
  obtain ⟨F, h1, h2, h3, h4, h5⟩ := h
  exact ⟨F, h1.below hb, h2, h3.trans (hb.mono h4), Nat.le_trans h4 hb.size, fun k hk => ⟨Nat.lt_of_lt_of_le (h5 k hk).1 hb.size, (hb.block k (h5 k hk).1).trans (h5 k hk).2⟩⟩
theorem LivZ.below (h : LivZ B w0 w b ss cur Z wz) : Below B w0 w := by
  obtain ⟨F, h1, h2, h3, h4, h5⟩ := h
  exact h3
theorem LivZ.kept (h : LivZ B w0 w b ss cur Z wz) : ∀ k, Z k → w.heap[k]? = wz.heap[k]? := by
  obtain ⟨F, h1, h2, h3, h4, h5⟩ := h
  exact fun k hk => (h5 k hk).2
theorem put_livz (h : LivZ B w0 w b ss cur Z wz) (hg : GoodP ss cur) (lane v : Int) : Calls Try.prog 17 #[.pointer (some ⟨b, 0, none⟩), .int .i64 lane, .int .i64 v] w fun e w' => e = .returned (.int .i64 (putP ss lane v).1) ∧ LivZ B w0 w' b (putP ss lane v).2 cur Z wz := by
  obtain ⟨F, h1, h2, h3, h4, h5⟩ := h
  exact (pput_any h1 hg lane v).mono fun e w' ⟨k1, k2⟩ => ⟨k1, LivZ.out h2 h3 h4 h5 k2⟩
theorem take_livz (h : LivZ B w0 w b ss cur Z wz) (hg : GoodP ss cur) (hn : FewP ss 8000000000000) : Calls Try.prog 18 #[.pointer (some ⟨b, 0, none⟩)] w fun e w' => e = .returned (ptkV (takeP ss cur).1) ∧ LivZ B w0 w' b (takeP ss cur).2.1 (takeP ss cur).2.2 Z wz := by
  obtain ⟨F, h1, h2, h3, h4, h5⟩ := h
  exact (ptake_any h1 hg hn).mono fun e w' ⟨k1, k2⟩ => ⟨k1, LivZ.out h2 h3 h4 h5 k2⟩
end

theorem rem_at (z : Int) {n : Nat} (hn : 0 < n) : ∃ k : Nat, k < n ∧ ((0 ≤ z.tmod n ∧ z.tmod n = (k : Int)) ∨ (z.tmod n < 0 ∧ z.tmod n + n = (k : Int))) := by
  have h1 : -(n : Int) < z.tmod n := by
    have := Int.lt_tmod_of_pos z (b := (n : Int)) (by omega)
    omega
  have h2 : z.tmod n < (n : Int) := Int.tmod_lt_of_pos z (by omega)
  by_cases h : 0 ≤ z.tmod n
  · exact ⟨(z.tmod n).toNat, by omega, .inl ⟨h, by omega⟩⟩
  · exact ⟨(z.tmod n + n).toNat, by omega, .inr ⟨by omega, by omega⟩⟩
theorem nat_tmod (x n : Nat) : ((x : Int)).tmod (n : Int) = ((x % n : Nat) : Int) := (Int.ofNat_tmod _ _).symm

set_option maxRecDepth 100000 in
theorem fair_long {room cursor which : Int} {a am : Option Addr} {c cm m : Nat} {l : List TLn} {w : World} (hA : ALs w a l) (hl : l.length ≤ 8000000000000) (hlg : longT l) :
    Calls Try.prog 4 #[.int .i64 room, .slice a l.length c, .int .i64 cursor, .int .i64 which, .slice am m cm] w fun e w' => e = .returned (.bool true) ∧ Below w.heap.size w w' := by
  have hf := fixed_any w
  have hlo := fun (W : World) (hb : Below w.heap.size w W) => long_any (c := c) (hA.below hb).rd hl true (by simp [hlg])
  obtain ⟨n, hnn⟩ : ∃ n, Hid (l.length = n) := ⟨_, rfl⟩
  rw [hnn.out] at hlo ⊢
  clear hA hl hlg
  go_enter Try.func4, Try.ntmps4
  go_wp2_with (first | (go_at_call 5; refine hf.mono ?_; rintro e1 w1 ⟨rfl, b1⟩; have hlo1 := hlo w1 b1) | (go_at_call 6; refine hlo1.mono ?_; rintro e2 w1 ⟨rfl, rfl⟩))
  go_ret
  exact ⟨rfl, b1⟩
end Go.Proofs.Ytknklbojcnhjcaa
