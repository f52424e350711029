/- A program's bytes, by the document's answer. -/
import Derived.Test.YtmjokinagbpihaaDoorCW8
namespace Go.Proofs.YtmjokinagbpihaaDoor
open Go.RowKit

theorem take_snoc (l : List Ins) (i : Nat) (h : i < l.length) : l.take (i + 1) = l.take i ++ [l.getD i default] := by
  rw [List.take_add_one, List.getD_eq_getElem?_getD, List.getElem?_eq_getElem h]
  rfl
theorem enc_step (l : List Ins) (i : Nat) (h : i < l.length) : encB (l.take (i + 1)) = encB (l.take i) ++ insB (l.getD i default) := by rw [take_snoc l i h, encB_snoc]

theorem may_len {l : List Ins} (h : (mayL l 8).1 = 0) : l.length ≤ 256 := by
  unfold mayL at h
  rw [if_neg (by omega)] at h
  split at h
  · simp at h
  · omega
theorem may_zero {l : List Ins} {k : Int} (h : (mayL l k).1 = 0) : mayL l k = (0, 0) := by
  have h2 := (mayL_place l k).2.2 h
  exact Prod.ext h h2

theorem owns_mono {w : World} {B B' n s : Nat} {e : TypeId} {v : Value} {xs : List Value} (h : w.ownsRow B e s v n xs) (hB : B' ≤ B) : w.ownsRow B' e s v n xs := by
  obtain ⟨h1, h2⟩ := h
  refine ⟨h1, ?_⟩
  rcases h2 with h2 | ⟨g, cap, cur, h2, h3, h4⟩
  · exact .inl h2
  · exact .inr ⟨g, cap, cur, h2, Nat.le_trans hB h3, h4⟩

set_option maxRecDepth 100000 in
theorem encode_no (a : Option Addr) (cap : Nat) (l : List Ins) (w : World) (hP : Prg w a l) (hF : Fld w) (hm : (mayL l 8).1 ≠ 0) :
    Calls Tryd.prog 37 #[.slice a l.length cap] w fun e w' => e = .returned (.tuple #[.slice none 0 0, .int .i64 (mayL l 8).1, .int .i64 (mayL l 8).2]) ∧ Below w.heap.size w w' := by
  have hmay := may_any a cap l 8 w hP hF
  generalize mayL l 8 = R at *
  obtain ⟨E, A⟩ := R
  simp only at *
  have d1 : (E == 0) = false := by simpa using hm
  clear hP hm hF
  go_enter Tryd.func37, Tryd.ntmps37
  go_wp2_with fail
  refine hmay.mono ?_
  rintro e w1 ⟨rfl, b1⟩
  go_wp2_with fail
  go_ret3
  exact ⟨rfl, b1⟩
end Go.Proofs.YtmjokinagbpihaaDoor
