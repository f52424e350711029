/- The law's own map beside a wheel; past. -/
import Derived.Test.YtdpbkoohhnpjmaaWM2
import Derived.Test.YtdpbkoohhnpjmaaWWJ
namespace Go.Proofs.Ytdpbkoohhnpjmaa
open Go.RowKit Go.Sort Go.Shelf Go.Maps

def valI (t : Th) : DataW Unit := .lit (.int .i64 t.1)
theorem zeroI (w : World) : (zeroValue 2).run Try.prog w = .ok (.int .i64 0) w := Try.zeroValue2 w
theorem wfI {x : Int} (h : Fit64 x) : (Lit.int .i64 x).wf = true := WalkArith.wf_i64 h

/-- A wheel of the call's own, L set in it, and beside it the law's map of M. -/
structure Once (w wr : World) (b mb : Nat) (L M : List Th) : Prop where
  wh : ∃ F, Wh wr b F L ∧ (∀ k, F k → w.heap.size ≤ k) ∧ ¬ F mb
  map : ∃ D, wr.ownsMap Try.prog 3 (plainElem Try.prog 2) mb M.length D ∧ MapOf valI D M
  mge : w.heap.size ≤ mb
  bel : Below w.heap.size w wr
section
variable {w wr w' : World} {b mb : Nat} {L M : List Th}
theorem Once.mlt (h : Once w wr b mb L M) : mb < wr.heap.size := by
  obtain ⟨D, h1, _⟩ := h.map
  exact h1.lt
theorem Once.good (h : Once w wr b mb L M) : GoodW L := by
  obtain ⟨F, h1, _⟩ := h.wh
  exact h1.good
theorem Once.below (h : Once w wr b mb L M) (hb : Below wr.heap.size wr w') : Once w w' b mb L M := by
  obtain ⟨F, h1, h2, h3⟩ := h.wh
  obtain ⟨D, m1, m2⟩ := h.map
  exact ⟨⟨F, h1.below hb, h2, h3⟩, ⟨D, owns_kept m1 (hb.block mb h.mlt), m2⟩, h.mge, h.bel.trans (hb.mono h.bel.size)⟩
theorem Once.out {F : Nat → Prop} {L' : List Th} (h : Once w wr b mb L M) (hF : ∀ k, F k → w.heap.size ≤ k) (hm : ¬ F mb) (ho : WhOut wr b F L' w') : Once w w' b mb L' M := by
  obtain ⟨h1, F', h2, h3⟩ := ho
  obtain ⟨D, m1, m2⟩ := h.map
  refine ⟨⟨F', h2, fun k hk => ?_, fun hk => ?_⟩, ⟨D, owns_kept m1 (h1.block mb h.mlt hm), m2⟩, h.mge, h.bel.trans (h1.below h.bel.size (fun k _ hk => hF k hk))⟩
  · rcases h3 k hk with h4 | h4
    · exact hF k h4
    · exact Nat.le_trans h.bel.size h4
  · rcases h3 mb hk with h4 | h4
    · exact hm h4
    · have := h.mlt; omega
theorem Once.turn {w2 : World} {M' : List Th} {D' : DataW Unit} (h : Once w wr b mb L M) (hm : Mod (fun k => k = mb) wr w2) (ho : w2.ownsMap Try.prog 3 (plainElem Try.prog 2) mb M'.length D') (hM : MapOf valI D' M') : Once w w2 b mb L M' := by
  obtain ⟨F, h1, h2, h3⟩ := h.wh
  exact ⟨⟨F, h1.mod hm (fun k hk e => h3 (by rw [← e]; exact hk)), h2, h3⟩, ⟨D', ho, hM⟩, h.mge, h.bel.trans (hm.below h.bel.size (fun k _ hk => by rw [hk]; exact h.mge))⟩
/-- One more laid into the map. -/
theorem Once.store (h : Once w wr b mb L M) (hG : GoodW M) {id due : Int} (hi : Fit64 id) (hd' : Fit64 due) (hn : M.length ≤ 4000000000) : ∃ w2, (Instr.mapUpdate 42 (.map (some mb)) (.int .i64 id) (.int .i64 due)).run Try.prog wr = .ok () w2 ∧ Once w w2 b mb L (setA id due M) := by
  obtain ⟨D, m1, m2⟩ := h.map
  obtain ⟨w2, hrun, o2, t2⟩ := m1.store lawInt Try.underlying42 (by unfold maxLen; omega) (key_int hi) (plainElem_int Try.underlying2 (wfI hd'))
  have hM2 : Mod (fun k => k = mb) wr w2 := (mod_grown t2.grown).mono (fun k _ e => (Option.some.inj e).symm)
  have o2' := owns_tight o2
  have m2' := m2.put hG id due
  have o3 : w2.ownsMap Try.prog 3 (plainElem Try.prog 2) mb (setA id due M).length (D.put (.int .i64 id) (valI (due, id))) := by rw [← m2'.size]; exact o2'
  exact ⟨w2, hrun, h.turn hM2 o3 m2'⟩
theorem Once.drop (h : Once w wr b mb L M) (hG : GoodW M) {id : Int} (hi : Fit64 id) : ∃ w2, (∀ ty, (Builtin.delete_ #[42, 3] ty #[.map (some mb), .int .i64 id]).run Try.prog wr = .ok (.tuple #[]) w2) ∧ Once w w2 b mb L (clr id M) := by
  obtain ⟨D, m1, m2⟩ := h.map
  obtain ⟨w2, hrun, o2, t2⟩ := m1.drop lawInt Try.underlying42 (key_int hi) 0
  have hM2 : Mod (fun k => k = mb) wr w2 := (mod_grown t2.grown).mono (fun k _ e => (Option.some.inj e).symm)
  have o2' := owns_tight o2
  have m2' := m2.del hG id
  rw [m2'.size] at o2'
  exact ⟨w2, fun ty => hrun, h.turn hM2 o2' m2'⟩
theorem Once.drop2 (h : Once w wr b mb L M) (hG : GoodW M) {id : Int} (hi : Fit64 id) : ∃ w2, (∀ ty, (Builtin.delete_ #[42, 3] ty #[.map (some mb), .int .i64 id]).run Try.prog wr = .ok (.tuple #[]) w2) ∧ Once w w2 b mb L (clr id M) ∧ Mod (fun k => k = mb) wr w2 := by
  obtain ⟨D, m1, m2⟩ := h.map
  obtain ⟨w2, hrun, o2, t2⟩ := m1.drop lawInt Try.underlying42 (key_int hi) 0
  have hM2 : Mod (fun k => k = mb) wr w2 := (mod_grown t2.grown).mono (fun k _ e => (Option.some.inj e).symm)
  have o2' := owns_tight o2
  have m2' := m2.del hG id
  rw [m2'.size] at o2'
  exact ⟨w2, fun ty => hrun, h.turn hM2 o2' m2', hM2⟩
theorem Once.look (h : Once w wr b mb L M) (hG : GoodW M) {id : Int} (hi : Fit64 id) : (Instr.lookup 42 (.map (some mb)) (.int .i64 id) true).run Try.prog wr = .ok (.tuple #[.int .i64 (dueA id M).1, .bool (dueA id M).2]) wr := by
  obtain ⟨D, m1, m2⟩ := h.map
  obtain ⟨v, ps, h1, h2⟩ := m1.look_ok lawInt Try.underlying42 (zeroI wr) (plainElem_int Try.underlying2 (wfI ⟨by decide, by decide⟩)) (key_int hi)
  obtain ⟨c, rfl, e, _⟩ := plainElem_int_inv Try.underlying2 h2
  have e1 := (Prod.mk.inj e).1
  rw [m2.has] at h1
  rw [h1]
  cases hs : isSet id M with
  | true =>
    obtain ⟨t, ht, rfl⟩ := isSet_iff.1 hs
    rw [m2.at' t ht] at e1
    rw [dueA_some hG ht]
    rw [(Lit.int.inj (DataW.lit.inj e1)).2]
  | false =>
    rw [atKey_of_not_has (by rw [m2.has]; exact hs)] at e1
    rw [dueA_none hs]
    rw [(Lit.int.inj (DataW.lit.inj e1)).2]
theorem Once.len (h : Once w wr b mb L M) (ty : TypeId) : (Builtin.len_ #[42] ty #[.map (some mb)]).run Try.prog wr = .ok (.int .i64 (M.length : Int)) wr := by
  obtain ⟨D, m1, m2⟩ := h.map
  rw [m1.len Try.underlying42 ty, m2.size]
end

/-- One of a list of pairs that came in. -/
theorem rd_pair {w : World} {a : Option Addr} {l : List (Int × Int)} (h : Rd w a (wC l)) (i : Nat) (hi : i < l.length) : ∃ g o, a = some ⟨g, o, none⟩ ∧ w.cell? ⟨g, o + i * 2, none⟩ = some (.int .i64 (tAt l i).1) ∧ w.cell? ⟨g, o + i * 2 + 1, none⟩ = some (.int .i64 (tAt l i).2) := by
  obtain ⟨k0, k1⟩ := wC_at l i hi
  obtain ⟨g, o, rfl, h0⟩ := h _ _ k0
  obtain ⟨g', o', e, h1⟩ := h _ _ k1
  cases e
  exact ⟨g, o, rfl, h0, h1⟩

theorem take_one {α : Type} (l : List α) (i : Nat) (h : i < l.length) (d : α) : l.take (i + 1) = l.take i ++ [l.getD i d] := by
  rw [List.take_succ_eq_append_getElem h, List.getD_eq_getElem?_getD, List.getElem?_eq_getElem h]
  rfl
set_option maxRecDepth 100000 in
set_option maxHeartbeats 1000000 in
theorem past_any {w : World} {a : Option Addr} {c : Nat} {l : List (Int × Int)} (hR : Rd w a (wC l)) (hn : l.length ≤ 2000000) (id : Int) :
    Calls Try.prog 15 #[.slice a l.length c, .int .i64 id] w fun e w' => e = .returned (.int .i64 (pastL l id)) ∧ w' = w := by
  have HR := hd hR
  obtain ⟨n, hN⟩ : ∃ n, Hid (l.length = n) := ⟨_, rfl⟩
  obtain ⟨R, hRes⟩ : ∃ R, Hid (pastL l id = R) := ⟨_, rfl⟩
  rw [hRes.out]
  rw [hN.out] at hn ⊢
  clear hR
  go_enter Try.func15, Try.ntmps15
  go_wp2_with fail
  go_loopg [5] n (fun k v5 wr => v5 = .int .i64 ((k : Int) - 1) ∧ k ≤ n ∧ wr = w ∧ Hid (pastL (l.take k) id = R))
  case atStart => exact ⟨by go_num, Nat.le_refl _, rfl, hd (by rw [← hN.out, List.take_length]; exact hRes.out)⟩
  case round =>
    obtain ⟨rfl, hkn, rfl, HE⟩ := hrel
    by_cases h0 : gk = 0
    · subst h0
      obtain rfl : R = -1 := by rw [← HE.out]; rfl
      clear hRes HE
      go_wp2_with fail
      go_ret
      exact ⟨rfl, rfl⟩
    · obtain ⟨i, rfl⟩ : ∃ i, gk = i + 1 := ⟨gk - 1, by omega⟩
      obtain ⟨g, o, rfl, c0, c1⟩ := rd_pair HR.out i (by rw [hN.out]; omega)
      have HT : Hid (pastL (l.take (i + 1)) id = if (tAt l i).1 = id ∧ 0 ≤ (tAt l i).2 then (tAt l i).2 else pastL (l.take i) id) := hd (by rw [take_one l i (by rw [hN.out]; omega) (0, 0), pastL_snoc]; rfl)
      generalize tAt l i = x at *
      obtain ⟨x1, x2⟩ := x
      simp only at c0 c1 HT
      have hii : ((i + 1 : Nat) : Int) - 1 = (i : Int) := by omega
      have hin : (i : Int) < (n : Int) := by omega
      rw [hii]
      clear hii h0 hRes
      by_cases h1 : x1 = id
      · have h1' : (x1 == id) = true := by simp [h1]
        by_cases h2 : 0 ≤ x2
        · obtain rfl : R = x2 := by rw [← HE.out, HT.out, if_pos ⟨h1, h2⟩]
          clear HE HT h1
          go_wp2_with fail
          go_ret
          exact ⟨rfl, rfl⟩
        · have h2' : decide (0 ≤ x2) = false := by simpa using h2
          have HE2 : Hid (pastL (l.take i) id = R) := hd (by rw [← HE.out, HT.out, if_neg (fun e => h2 e.2)])
          clear HE HT h1 h2
          go_wp2_with fail
          go_roundg i
          case measure => omega
          case rel => exact ⟨by go_num, by omega, rfl, HE2⟩
      · have h1' : (x1 == id) = false := by simpa using h1
        have HE2 : Hid (pastL (l.take i) id = R) := hd (by rw [← HE.out, HT.out, if_neg (fun e => h1 e.1)])
        clear HE HT h1
        go_wp2_with fail
        go_roundg i
        case measure => omega
        case rel => exact ⟨by go_num, by omega, rfl, HE2⟩
end Go.Proofs.Ytdpbkoohhnpjmaa
