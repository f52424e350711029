/- The document's wheel in memory; place, Clear, Set, Due. -/
import Derived.Test.YtdpbkoohhnpjmaaWWG
namespace Go.Proofs.Ytdpbkoohhnpjmaa
open Go.RowKit Go.Sort Go.Shelf Go.Maps

/-- Things as the document lays them: the number, then when it is due. -/
def sv (L : List Th) : List Th := L.map (fun t => (t.2, t.1))
theorem sv_len (L : List Th) : (sv L).length = L.length := by simp [sv]
theorem sv_at (L : List Th) (i : Nat) : tAt (sv L) i = ((tAt L i).2, (tAt L i).1) := by
  unfold tAt sv
  rw [List.getD_eq_getElem?_getD, List.getD_eq_getElem?_getD, List.getElem?_map]
  cases L[i]? <;> rfl
theorem sv_app (L M : List Th) : sv (L ++ M) = sv L ++ sv M := by simp [sv]

/-- The document's wheel at the block b, its list at a. -/
structure RAt (w : World) (b : Nat) (a : Option Addr) (c : Nat) (L : List Th) : Prop where
  obj : w.heap[b]? = some (.cells #[.slice a L.length c] 30 (0, 0))
  row : Row w 61 2 a L.length c (wC (sv L))
  ne : ∀ k, blk a = some k → k ≠ b
def rfp (b : Nat) (a : Option Addr) (k : Nat) : Prop := k = b ∨ blk a = some k
section
variable {w w' : World} {b : Nat} {a : Option Addr} {c : Nat} {L : List Th}
theorem RAt.blt (h : RAt w b a c L) : b < w.heap.size := (Array.getElem?_eq_some_iff.1 h.obj).1
theorem RAt.lt (h : RAt w b a c L) : ∀ k, rfp b a k → k < w.heap.size := fun k hk => by
  rcases hk with rfl | hk
  · exact h.blt
  · exact h.row.lt k hk
theorem RAt.c0 (h : RAt w b a c L) : w.cell? ⟨b, 0, none⟩ = some (.slice a L.length c) := by rw [cell_of_row _ _ _ _ _ _ h.obj]; rfl
theorem RAt.free (h : RAt w b a c L) : w.frozen? ⟨b, 0, none⟩ = false := by simp [World.frozen?, h.obj]
theorem RAt.mod {S : Nat → Prop} (h : RAt w b a c L) (hm : Mod S w w') (hn : ∀ k, rfp b a k → ¬ S k) : RAt w' b a c L := ⟨by rw [hm.block b h.blt (hn b (.inl rfl))]; exact h.obj, h.row.mod hm (fun k hk => hn k (.inr hk)), h.ne⟩
theorem RAt.below (h : RAt w b a c L) (hb : Below w.heap.size w w') : RAt w' b a c L := h.mod (Mod.of_below (fun _ => False) hb) (fun _ _ h => h)
theorem RAt.lay {L' : List Th} {a' : Option Addr} {c' n : Nat} (h : w.heap[b]? = some (.cells #[.slice a L.length c] 30 (0, 0))) (hR : Row w 61 2 a' n c' (wC (sv L'))) (hl : n = L'.length) (hn : ∀ k, blk a' = some k → k ≠ b) : RAt (w.setCell ⟨b, 0, none⟩ (.slice a' n c')) b a' c' L' := by
  subst hl
  refine ⟨?_, hR.kept fun k hk => Below.heap_setCell _ _ _ _ (hn k hk), hn⟩
  rw [heap_setCell_self h]
  rfl
/-- One of them, by its cells: the number, when it is due. -/
theorem RAt.one (h : RAt w b a c L) (i : Nat) (hi : i < L.length) : ∃ g, a = some ⟨g, 0, none⟩ ∧ w.cell? ⟨g, i * 2, none⟩ = some (.int .i64 (tAt L i).2) ∧ w.cell? ⟨g, i * 2 + 1, none⟩ = some (.int .i64 (tAt L i).1) := by
  obtain ⟨g, h1, h2, h3⟩ := row_t h.row i (by rw [sv_len]; exact hi)
  rw [sv_at] at h2 h3
  exact ⟨g, h1, h2, h3⟩
end
/-- The document's wheel at b; its blocks are among F. -/
def Rf (w : World) (b : Nat) (F : Nat → Prop) (L : List Th) : Prop := ∃ a c, RAt w b a c L ∧ (∀ k, rfp b a k → F k) ∧ ∀ k, F k → k < w.heap.size
theorem Rf.mod {w w' : World} {b : Nat} {F S : Nat → Prop} {L : List Th} (h : Rf w b F L) (hm : Mod S w w') (hn : ∀ k, F k → ¬ S k) : Rf w' b F L := by
  obtain ⟨a, c, h1, h2, h3⟩ := h
  exact ⟨a, c, h1.mod hm (fun k hk => hn k (h2 k hk)), h2, fun k hk => Nat.lt_of_lt_of_le (h3 k hk) hm.size⟩
theorem Rf.below {w w' : World} {b : Nat} {F : Nat → Prop} {L : List Th} (h : Rf w b F L) (hb : Below w.heap.size w w') : Rf w' b F L := h.mod (Mod.of_below (fun _ => False) hb) (fun _ _ h => h)
def RfOut (w : World) (b : Nat) (F : Nat → Prop) (L' : List Th) (w' : World) : Prop := Mod F w w' ∧ ∃ F', Rf w' b F' L' ∧ ∀ k, F' k → F k ∨ w.heap.size ≤ k
theorem RfOut.same {w w' : World} {b : Nat} {F : Nat → Prop} {L : List Th} (h : Rf w b F L) (hb : Below w.heap.size w w') : RfOut w b F L w' := ⟨Mod.of_below _ hb, F, h.below hb, fun _ h => .inl h⟩
theorem RfOut.mk' {w w' : World} {b : Nat} {a a' : Option Addr} {c' : Nat} {F : Nat → Prop} {L' : List Th} (hF : ∀ k, rfp b a k → F k) (hm : Mod (rfp b a) w w') (hW : RAt w' b a' c' L') (hn : ∀ k, blk a' = some k → blk a = some k ∨ w.heap.size ≤ k) : RfOut w b F L' w' :=
  ⟨hm.mono (fun k _ hk => hF k hk), rfp b a', ⟨a', c', hW, fun _ h => h, hW.lt⟩, fun k hk => by
    rcases hk with rfl | hk
    · exact .inl (hF _ (.inl rfl))
    · rcases hn k hk with h | h
      · exact .inl (hF k (.inr h))
      · exact .inr h⟩
theorem RfOut.trans {w w1 w2 : World} {b : Nat} {F : Nat → Prop} {L1 L2 : List Th} (h : RfOut w b F L1 w1) (k : ∀ F1, Rf w1 b F1 L1 → RfOut w1 b F1 L2 w2) : RfOut w b F L2 w2 := by
  obtain ⟨h1, F1, h2, h3⟩ := h
  obtain ⟨k1, F2, k2, k3⟩ := k F1 h2
  exact ⟨h1.trans k1 h3, F2, k2, fun i hi => by
    rcases k3 i hi with h4 | h4
    · exact h3 i h4
    · exact .inr (Nat.le_trans h1.size h4)⟩

/-- What place tells. -/
def PlaceA (L : List Th) (id : Int) (r : Int) : Prop := (isSet id L = false ∧ r = -1) ∨ ∃ k : Nat, k < L.length ∧ r = k ∧ (tAt L k).2 = id

set_option maxRecDepth 100000 in
set_option maxHeartbeats 1000000 in
theorem place_any {w : World} {b : Nat} {a : Option Addr} {c : Nat} {L : List Th} (h : RAt w b a c L) (hn : L.length ≤ 8796093022208) (id : Int) :
    Calls Try.prog 26 #[.pointer (some ⟨b, 0, none⟩), .int .i64 id] w fun e w' => ∃ r, e = .returned (.int .i64 r) ∧ PlaceA L id r ∧ w' = w := by
  have c0 := h.c0
  have HH := hd h
  obtain ⟨n, hN⟩ : ∃ n, Hid (L.length = n) := ⟨_, rfl⟩
  rw [hN.out] at c0 hn
  clear h
  go_enter Try.func26, Try.ntmps26
  go_wp2_with fail
  go_loopg [5] n (fun k v5 wr => ∃ i : Nat, v5 = .int .i64 (i : Int) ∧ i + k = n ∧ wr = w ∧ Hid (∀ j, j < i → (tAt L j).2 ≠ id))
  case atStart => exact ⟨0, rfl, by omega, rfl, hd (fun j hj => absurd hj (Nat.not_lt_zero _))⟩
  case round =>
    obtain ⟨i, rfl, hik, rfl, HE⟩ := hrel
    by_cases hlt : i < n
    · have hlt' : (i : Int) < (n : Int) := by omega
      obtain ⟨g, rfl, x0, x1⟩ := HH.out.one i (by rw [hN.out]; exact hlt)
      by_cases hid : (tAt L i).2 = id
      · have HR : Hid (PlaceA L id (i : Int)) := hd (.inr ⟨i, by rw [hN.out]; exact hlt, rfl, hid⟩)
        generalize tAt L i = t at *
        obtain ⟨t1, t2⟩ := t
        simp only at x0 x1 hid
        have hq : (t2 == id) = true := by simp [hid]
        clear hid
        go_wp2_with fail
        go_ret
        exact ⟨_, rfl, HR.out, rfl⟩
      · have HE2 : Hid (∀ j, j < i + 1 → (tAt L j).2 ≠ id) := hd (fun j hj => by
          by_cases e : j = i
          · rw [e]; exact hid
          · exact HE.out j (by omega))
        generalize (tAt L i).2 = t2 at *
        generalize (tAt L i).1 = t1 at *
        have hq : (t2 == id) = false := by simpa using hid
        clear hid
        go_wp2_with fail
        go_roundg (gk - 1)
        case measure => omega
        case rel => exact ⟨i + 1, by go_num, by omega, rfl, HE2⟩
    · have ein : i = n := by omega
      subst ein
      have HR : Hid (PlaceA L id (-1)) := hd (.inl ⟨by
        cases hs : isSet id L with
        | false => rfl
        | true =>
          obtain ⟨t, ht, e⟩ := isSet_iff.1 hs
          obtain ⟨j, hj, e2⟩ := mem_tAt ht
          exact absurd (by rw [e2]; exact e) (HE.out j (by rw [← hN.out]; exact hj)), rfl⟩)
      clear HE
      go_wp2_with fail
      go_ret
      exact ⟨_, rfl, HR.out, rfl⟩

theorem rdue_any {w : World} {b : Nat} {F : Nat → Prop} {L : List Th} (h : Rf w b F L) (hG : GoodW L) (hn : L.length ≤ 8796093022208) (id : Int) :
    Calls Try.prog 20 #[.pointer (some ⟨b, 0, none⟩), .int .i64 id] w fun e w' => e = .returned (.tuple #[.int .i64 (dueA id L).1, .bool (dueA id L).2]) ∧ w' = w := by
  obtain ⟨a, c, h, -, -⟩ := h
  have hp := place_any h hn id
  have c0 := h.c0
  have HH := hd h
  obtain ⟨n, hN⟩ : ∃ n, Hid (L.length = n) := ⟨_, rfl⟩
  rw [hN.out] at c0
  obtain ⟨⟨r1, r2⟩, hR⟩ : ∃ R, Hid (dueA id L = R) := ⟨_, rfl⟩
  rw [hR.out]
  clear h
  go_enter Try.func20, Try.ntmps20
  go_upto_region 2 with (go_at_call 26; refine hp.mono ?_; rintro e1 w ⟨r, rfl, hP, rfl⟩)
  rcases hP with ⟨hs, rfl⟩ | ⟨k, hk, rfl, hid⟩
  · obtain ⟨rfl, rfl⟩ : r1 = 0 ∧ r2 = false := Prod.mk.inj (by rw [← hR.out, dueA_none hs])
    go_wp2_with fail
    go_ret2
    exact ⟨rfl, rfl⟩
  · obtain ⟨g, rfl, x0, x1⟩ := HH.out.one k hk
    obtain ⟨e1, rfl⟩ : r1 = (tAt L k).1 ∧ r2 = true := Prod.mk.inj (by rw [← hR.out, ← hid, dueA_some hG (tAt_mem hk)])
    rw [hN.out] at hk
    rw [← e1] at x1
    clear hR e1 x0
    have hk' : (k : Int) < (n : Int) := by omega
    have hk0 : decide ((k : Int) < 0) = false := by simp
    clear hp hid
    go_wp2_with fail
    go_ret2
    exact ⟨rfl, rfl⟩
end Go.Proofs.Ytdpbkoohhnpjmaa
