/- PostDoes: what its walk needs. -/
import Derived.Test.YtknklbojcnhjcaaPD4
namespace Go.Proofs.Ytknklbojcnhjcaa
open Go.RowKit

theorem LayErr.one {room : Int} {l : List TLn} {cursor e1 e2 : Int} (h : LayErr room l cursor e1) (k : LayErr room l cursor e2) : e1 = e2 := by
  rcases h with ⟨a1, a2⟩ | ⟨a1, a2, a3⟩ | ⟨a1, a2, a3, a4⟩ <;> rcases k with ⟨b1, b2⟩ | ⟨b1, b2, b3⟩ | ⟨b1, b2, b3, b4⟩
  · omega
  · rw [a1] at b1; cases b1
  · rw [a1] at b1; cases b1
  · rw [a1] at b1; cases b1
  · omega
  · omega
  · rw [a1] at b1; cases b1
  · omega
  · omega
theorem LayErr.not_may {room : Int} {l : List TLn} {cursor er : Int} {R cur : Nat} (h : LayErr room l cursor er) (k : LayMay room l cursor R cur) : False := by
  have hm : mayP l.length room = true := by
    have := k.n1; have := k.n2; have := k.r1; have := k.r2; have := k.room
    simp [mayP]
    omega
  have h1 := k.cursor
  have h2 := k.cu
  rcases h with ⟨a1, _⟩ | ⟨_, a2, _⟩ | ⟨_, _, ⟨t, ht, hn⟩, _⟩
  · rw [hm] at a1; cases a1
  · omega
  · rw [k.room] at hn
    exact hn (k.may t ht)
theorem LayMay.one {room : Int} {l : List TLn} {cursor : Int} {R cur R' cur' : Nat} (h : LayMay room l cursor R cur) (k : LayMay room l cursor R' cur') : R' = R ∧ cur' = cur := by
  have h1 := h.room; have h2 := h.cursor; have h3 := k.room; have h4 := k.cursor
  omega
theorem lay_cases (room : Int) (l : List TLn) (cursor : Int) : (∃ er, LayErr room l cursor er) ∨ ∃ R cur, LayMay room l cursor R cur := by
  cases hm : mayP l.length room with
  | false => exact .inl ⟨1, .inl ⟨hm, rfl⟩⟩
  | true =>
    by_cases hc : cursor < 0 ∨ (l.length : Int) ≤ cursor
    · exact .inl ⟨2, .inr (.inl ⟨hm, hc, rfl⟩)⟩
    · have h1 := mayP_yes hm
      by_cases ha : ∀ t ∈ l, MayL room t.vs t.ws t.tk t.dr
      · refine .inr ⟨room.toNat, cursor.toNat, by omega, by omega, by omega, by omega, by omega, by omega, by omega, fun t ht => ?_⟩
        have := ha t ht
        rwa [show ((room.toNat : Nat) : Int) = room by omega]
      · refine .inl ⟨4, .inr (.inr ⟨hm, by omega, ?_, rfl⟩)⟩
        rcases Classical.em (∃ t ∈ l, ¬ MayL room t.vs t.ws t.tk t.dr) with h2 | h2
        · exact h2
        · exact absurd (fun t ht => Classical.byContradiction (fun h3 => h2 ⟨t, ht, h3⟩)) ha

theorem play_err {room cursor er : Int} {a : Option Addr} {l : List TLn} {c : Nat} {w : World} (hA : ALs w a l) (hf : FitT l) (he : LayErr room l cursor er) :
    Calls Try.prog 8 #[.int .i64 room, .slice a l.length c, .int .i64 cursor] w (Refused w er) := (play_all hA hf).mono fun e w' h => by
  rcases h with ⟨e2, h1, h2⟩ | ⟨R, cur, h1, _⟩
  · rw [he.one h1]; exact h2
  · exact (he.not_may h1).elim
theorem play_may {room cursor : Int} {R cur : Nat} {a : Option Addr} {l : List TLn} {c : Nat} {w : World} (hA : ALs w a l) (hf : FitT l) (hm : LayMay room l cursor R cur) :
    Calls Try.prog 8 #[.int .i64 room, .slice a l.length c, .int .i64 cursor] w (MadeP w 59 89 60 (l.map (·.ls R)) cur) := (play_all hA hf).mono fun e w' h => by
  rcases h with ⟨e2, h1, h2⟩ | ⟨R', cur', h1, h2⟩
  · exact (h1.not_may hm).elim
  · obtain ⟨rfl, rfl⟩ := hm.one h1; exact h2
theorem rplay_err {room cursor er : Int} {a : Option Addr} {l : List TLn} {c : Nat} {w : World} (hA : ALs w a l) (hf : FitT l) (he : LayErr room l cursor er) :
    Calls Try.prog 9 #[.int .i64 room, .slice a l.length c, .int .i64 cursor] w (Refused w er) := (rplay_all hA hf).mono fun e w' h => by
  rcases h with ⟨e2, h1, h2⟩ | ⟨R, cur, h1, _⟩
  · rw [he.one h1]; exact h2
  · exact (he.not_may h1).elim
theorem rplay_may {room cursor : Int} {R cur : Nat} {a : Option Addr} {l : List TLn} {c : Nat} {w : World} (hA : ALs w a l) (hf : FitT l) (hm : LayMay room l cursor R cur) :
    Calls Try.prog 9 #[.int .i64 room, .slice a l.length c, .int .i64 cursor] w (MadeP w 65 91 66 (l.map (·.ls R)) cur) := (rplay_all hA hf).mono fun e w' h => by
  rcases h with ⟨e2, h1, h2⟩ | ⟨R', cur', h1, h2⟩
  · exact (h1.not_may hm).elim
  · obtain ⟨rfl, rfl⟩ := hm.one h1; exact h2

/-- A copy of the first ones. -/
def OwnE (l lo : List TLn) : Prop := ∀ j, j < lo.length → (tAt lo j).vs = (tAt l j).vs ∧ (tAt lo j).ws = (tAt l j).ws ∧ (tAt lo j).tk = (tAt l j).tk ∧ (tAt lo j).dr = (tAt l j).dr
theorem OwnE.eqv {l lo : List TLn} (h : OwnE l lo) (hl : lo.length = l.length) : Eqv lo l := ⟨hl, fun i hi => by
  obtain ⟨h1, h2, h3, h4⟩ := h i hi
  exact ⟨h1.symm, h2.symm, h3.symm, h4.symm⟩⟩
theorem Eqv.err {l m : List TLn} {room cursor er : Int} (h : Eqv l m) (k : LayErr room m cursor er) : LayErr room l cursor er := by
  have hl := h.1
  rcases k with ⟨a1, a2⟩ | ⟨a1, a2, a3⟩ | ⟨a1, a2, ⟨t, ht, hn⟩, a4⟩
  · exact .inl ⟨by rw [hl]; exact a1, a2⟩
  · exact .inr (.inl ⟨by rw [hl]; exact a1, by rw [hl]; exact a2, a3⟩)
  · refine .inr (.inr ⟨by rw [hl]; exact a1, by rw [hl]; exact a2, ?_, a4⟩)
    obtain ⟨i, hi, rfl⟩ := tAt_of_mem ht
    obtain ⟨h1, h2, h3, h4⟩ := h.2 i (by omega)
    rw [h1, h2, h3, h4] at hn
    exact ⟨tAt l i, tAt_mem (by omega), hn⟩
theorem Eqv.may {l m : List TLn} {room cursor : Int} {R cur : Nat} (h : Eqv l m) (k : LayMay room m cursor R cur) : LayMay room l cursor R cur := by
  have hl := h.1
  refine ⟨k.room, k.cursor, by rw [hl]; exact k.n1, by rw [hl]; exact k.n2, k.r1, k.r2, by rw [hl]; exact k.cu, fun t ht => ?_⟩
  obtain ⟨i, hi, rfl⟩ := tAt_of_mem ht
  obtain ⟨h1, h2, h3, h4⟩ := h.2 i hi
  have := k.may (tAt m i) (tAt_mem (by omega))
  rwa [h1, h2, h3, h4] at this
theorem map_ls_at (l : List TLn) (R i : Nat) (hi : i < l.length) : (l.map (·.ls R))[i]? = some ((tAt l i).ls R) := by
  unfold tAt
  rw [List.getElem?_map, List.getD_eq_getElem?_getD, List.getElem?_eq_getElem hi]
  rfl
theorem Eqv.ls {l m : List TLn} (h : Eqv l m) (R : Nat) : l.map (·.ls R) = m.map (·.ls R) := by
  refine List.ext_getElem? (fun i => ?_)
  by_cases hi : i < l.length
  · rw [map_ls_at l R i hi, map_ls_at m R i (by have := h.1; omega)]
    obtain ⟨h1, h2, h3, h4⟩ := h.2 i hi
    simp only [TLn.ls, h1, h2, h3, h4]
  · rw [List.getElem?_eq_none (by simp; omega), List.getElem?_eq_none (by simp; have := h.1; omega)]

/-- All of one room. -/
def RoomP (ss : List LS) (R : Nat) : Prop := ∀ s ∈ ss, s.room = R
theorem Tells.ls {l : List TLn} {ss : List LS} {R : Nat} (h : Tells l ss) (hr : RoomP ss R) : l.map (·.ls R) = ss := by
  refine List.ext_getElem? (fun i => ?_)
  by_cases hi : i < ss.length
  · rw [map_ls_at l R i (by have := h.1; omega)]
    obtain ⟨h1, h2, h3, h4⟩ := h.2 i hi
    have hm := hr _ (lnOf_mem hi)
    have e : ss[i]? = some (lnOf ss i) := by unfold lnOf; rw [List.getD_eq_getElem?_getD, List.getElem?_eq_getElem hi]; rfl
    rw [e]
    simp only [TLn.ls, h1, h2, h3, h4, ← hm]
  · rw [List.getElem?_eq_none (by simp; have := h.1; omega), List.getElem?_eq_none (by omega)]
theorem Tells.may {l : List TLn} {ss : List LS} {cur R : Nat} (h : Tells l ss) (hg : GoodP ss cur) (hr : RoomP ss R) : LayMay (R : Int) l (cur : Int) R cur := by
  have hl := h.1
  have h1 := hg.n1
  have h2 := hg.n2
  have hr0 := hr _ (lnOf_mem (i := 0) (by omega))
  have g0 := hg.at (i := 0) (by omega)
  refine ⟨rfl, rfl, by omega, by omega, by rw [← hr0]; exact g0.r1, by rw [← hr0]; exact g0.r2, by rw [hl]; exact hg.cu, fun t ht => ?_⟩
  obtain ⟨i, hi, rfl⟩ := tAt_of_mem ht
  rw [hl] at hi
  obtain ⟨k1, k2, k3, k4⟩ := h.2 i hi
  have := (hg.at hi).may
  rw [hr _ (lnOf_mem hi)] at this
  rw [k1, k2, k3, k4]
  exact this
theorem Tells.fit {l : List TLn} {ss : List LS} {cur : Nat} (h : Tells l ss) (hg : GoodP ss cur) (hn : totW ss ≤ 7000000000000) : FitT l := fun t ht => by
  obtain ⟨i, hi, rfl⟩ := tAt_of_mem ht
  rw [h.1] at hi
  obtain ⟨k1, k2, k3, k4⟩ := h.2 i hi
  rw [k2]
  exact ⟨by have := tot_mem (lnOf_mem hi); omega, (hg.at hi).fit⟩
theorem RoomP.set {ss : List LS} {R i : Nat} {s : LS} (h : RoomP ss R) (hs : s.room = R) : RoomP (ss.set i s) R := fun x hx => by
  rcases List.mem_or_eq_of_mem_set hx with h1 | h1
  · exact h x h1
  · rw [h1]; exact hs
theorem RoomP.map {ss : List LS} {R : Nat} {f : LS → LS} (h : RoomP ss R) (hf : ∀ s, (f s).room = s.room) : RoomP (ss.map f) R := fun x hx => by
  obtain ⟨s, hs, rfl⟩ := List.mem_map.1 hx
  rw [hf]; exact h s hs
theorem RoomP.step {ss : List LS} {R : Nat} (h : RoomP ss R) (cur : Nat) (k lane p v : Int) : RoomP (stepS ss cur k lane p v).1 R := by
  unfold stepS
  split
  · unfold putP
    split
    · rename_i hi
      have hi : 0 ≤ lane ∧ lane < (ss.length : Int) := by simpa [isP] using hi
      exact h.set (by rw [(put_ws _ v).2]; exact h _ (lnOf_mem (i := lane.toNat) (by omega)))
    · exact h
  · split
    · unfold dropP
      split
      · rename_i hi
        have hi : 0 ≤ lane ∧ lane < (ss.length : Int) := by simpa [isP] using hi
        exact h.set (s := dropL (lnOf ss lane.toNat)) (show (lnOf ss lane.toNat).room = R from h _ (lnOf_mem (by omega)))
      · exact h
    · split
      · rcases takeP_cases ss cur with hnn | ⟨m, hm, hne, hb⟩
        · rw [takeP_none hnn]; exact h
        · rw [takeP_some rfl hm hne hb]
          exact h.set (by rw [(take_ws _).2]; exact h _ (lnOf_mem (i := rnd ss.length cur m) (rnd_lt (by omega))))
      · split
        · unfold waitP
          split
          · rename_i hi
            have hi : 0 ≤ lane ∧ lane < (ss.length : Int) := by simpa [isP] using hi
            split
            · exact h
            · exact h.set (by rw [(wait_ws _ p v).2]; exact h _ (lnOf_mem (i := lane.toNat) (by omega)))
          · exact h
        · split
          · exact h.map (fun s => (leave_ws s p).2)
          · split
            · exact h.map (fun s => rfl)
            · exact h
theorem LayMay.good {room cursor : Int} {l : List TLn} {R cur : Nat} (h : LayMay room l cursor R cur) (hf : FitT l) : GoodP (l.map (·.ls R)) cur :=
  ⟨by simpa using h.n1, by simpa using h.n2, by simpa using h.cu, fun s hs => by
    obtain ⟨t, ht, rfl⟩ := List.mem_map.1 hs
    exact ⟨h.r1, h.r2, h.may t ht, (hf t ht).2⟩⟩
theorem LayMay.rooms {l : List TLn} {R : Nat} : RoomP (l.map (·.ls R)) R := fun s hs => by
  obtain ⟨t, ht, rfl⟩ := List.mem_map.1 hs
  rfl
theorem tot_ls {l : List TLn} {R N : Nat} (h : ∀ t ∈ l, t.ws.length ≤ N) : totW (l.map (·.ls R)) ≤ l.length * N := by
  unfold totW
  induction l with
  | nil => simp
  | cons t r ih =>
    have h1 := ih (fun t ht => h t (List.mem_cons_of_mem _ ht))
    have h2 := h t (List.mem_cons_self ..)
    simp only [List.map_cons, List.flatMap_cons, List.length_append, List.length_cons, Nat.succ_mul, TLn.ls] at *
    omega

/-- Steps as cells. -/
def sC (l : List (Int × Int × Int × Int)) : List Value := l.flatMap (fun x => [Value.int .i64 x.1, .int .i64 x.2.1, .int .i64 x.2.2.1, .int .i64 x.2.2.2])
theorem sC_at : ∀ (l : List (Int × Int × Int × Int)) (i : Nat), i < l.length → (sC l)[i * 4]? = some (.int .i64 (l.getD i (0, 0, 0, 0)).1) ∧ (sC l)[i * 4 + 1]? = some (.int .i64 (l.getD i (0, 0, 0, 0)).2.1) ∧ (sC l)[i * 4 + 2]? = some (.int .i64 (l.getD i (0, 0, 0, 0)).2.2.1) ∧ (sC l)[i * 4 + 3]? = some (.int .i64 (l.getD i (0, 0, 0, 0)).2.2.2)
  | [], i, h => absurd h (Nat.not_lt_zero i)
  | t :: ts, 0, _ => ⟨rfl, rfl, rfl, rfl⟩
  | t :: ts, i + 1, h => by
    have ih := sC_at ts i (by simpa using h)
    have hl : ([Value.int .i64 t.1, .int .i64 t.2.1, .int .i64 t.2.2.1, .int .i64 t.2.2.2] : List Value).length = 4 := rfl
    simp only [sC, List.flatMap_cons, List.getD_cons_succ] at *
    rw [List.getElem?_append_right (by omega), List.getElem?_append_right (by omega), List.getElem?_append_right (by omega), List.getElem?_append_right (by omega), hl, show (i + 1) * 4 - 4 = i * 4 by omega, show (i + 1) * 4 + 1 - 4 = i * 4 + 1 by omega, show (i + 1) * 4 + 2 - 4 = i * 4 + 2 by omega, show (i + 1) * 4 + 3 - 4 = i * 4 + 3 by omega]
    exact ih
theorem rd_s {w : World} {a : Option Addr} {l : List (Int × Int × Int × Int)} (h : Rd w a (sC l)) (i : Nat) (hi : i < l.length) : ∃ b o, a = some ⟨b, o, none⟩ ∧ w.cell? ⟨b, o + i * 4, none⟩ = some (.int .i64 (l.getD i (0, 0, 0, 0)).1) ∧ w.cell? ⟨b, o + i * 4 + 1, none⟩ = some (.int .i64 (l.getD i (0, 0, 0, 0)).2.1) ∧ w.cell? ⟨b, o + i * 4 + 2, none⟩ = some (.int .i64 (l.getD i (0, 0, 0, 0)).2.2.1) ∧ w.cell? ⟨b, o + i * 4 + 3, none⟩ = some (.int .i64 (l.getD i (0, 0, 0, 0)).2.2.2) := by
  obtain ⟨k0, k1, k2, k3⟩ := sC_at l i hi
  obtain ⟨b, o, rfl, c0⟩ := h _ _ k0
  obtain ⟨b1, o1, e1, c1⟩ := h _ _ k1
  obtain ⟨b2, o2, e2, c2⟩ := h _ _ k2
  obtain ⟨b3, o3, e3, c3⟩ := h _ _ k3
  cases e1; cases e2; cases e3
  exact ⟨b, o, rfl, c0, c1, c2, c3⟩

/-- Lay of what State tells, in the place of the program's lanes. -/
theorem PPair.relay {B : Nat} {w0 w w1 w2 : World} {bl br bn : Nat} {ss : List LS} {cur : Nat} {Fl Fr Fn : Nat → Prop} (h : PPair B w0 w bl br ss cur ss cur Fl Fr) (h1 : Below w.heap.size w w1) (hP : Ps w2 59 89 60 bn Fn ss cur) (hn : ∀ k, Fn k → w1.heap.size ≤ k) (h2 : Below w1.heap.size w1 w2) : PPair B w0 w2 bn br ss cur ss cur Fn Fr := by
  have h3 := h.after h1
  have h4 := h3.after h2
  exact ⟨hP, h4.r, fun k hk hf => by have := h3.r.lt k hf; have := hn k hk; omega, fun k hk => Nat.le_trans h3.le (hn k hk), h4.nr, h4.bel, h4.le⟩
end Go.Proofs.Ytknklbojcnhjcaa
