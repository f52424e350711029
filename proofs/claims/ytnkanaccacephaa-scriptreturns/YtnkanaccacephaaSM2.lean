/- What readers promise: what is read is what was written, cut short, and where something is wrong. -/
import Derived.Test.YtnkanaccacephaaSM1
namespace Go.Proofs.Ytnkanaccacephaa
open Go.RowKit

def Byte (bs : List Nat) : Prop := ∀ i, bs.getD i 0 < 256

structure Sp {α : Type} (p : Par α) (e : α → List Nat) (V : α → Prop) : Prop where
  sound : ∀ (bs : List Nat) (q : Nat) (a : α) (q' : Nat), Byte bs → q ≤ bs.length → p bs q = .ok a q' → V a ∧ q' = q + (e a).length ∧ q' ≤ bs.length ∧ ∃ t, bs.drop q = e a ++ t
  full : ∀ (bs : List Nat) (q : Nat) (a : α) (t : List Nat), V a → q ≤ bs.length → bs.drop q = e a ++ t → p bs q = .ok a (q + (e a).length)
  cut : ∀ (bs : List Nat) (q : Nat) (a : α) (k : Nat), V a → q ≤ bs.length → k < (e a).length → bs.drop q = (e a).take k → p bs q = .er 5 bs.length
  place : ∀ (bs : List Nat) (q : Nat) (x y : Int), q ≤ bs.length → p bs q = .er x y → x ≠ 0 ∧ 0 ≤ y ∧ y ≤ bs.length

theorem drop_len {bs : List Nat} {q : Nat} {a t : List Nat} (hq : q ≤ bs.length) (h : bs.drop q = a ++ t) : q + a.length ≤ bs.length ∧ bs.drop (q + a.length) = t := by
  have h1 := congrArg List.length h
  rw [List.length_drop, List.length_append] at h1
  refine ⟨by omega, ?_⟩
  rw [← List.drop_drop, h, List.drop_left]

theorem getD_drop (bs : List Nat) (q i : Nat) : bs.getD (q + i) 0 = (bs.drop q).getD i 0 := by
  simp [List.getD_eq_getElem?_getD, List.getElem?_drop]

theorem Sp.bind {α β : Type} {p : Par α} {e1 : α → List Nat} {V1 : α → Prop} (hp : Sp p e1 V1) {f : α → Par β} {e2 : α → β → List Nat} {V2 : α → β → Prop} (hf : ∀ a, V1 a → Sp (f a) (e2 a) (V2 a))
    (hpl : ∀ a (bs : List Nat) (q : Nat) (x y : Int), q ≤ bs.length → f a bs q = .er x y → x ≠ 0 ∧ 0 ≤ y ∧ y ≤ bs.length) (hle : ∀ (bs : List Nat) (q : Nat) (a : α) (q' : Nat), q ≤ bs.length → p bs q = .ok a q' → q' ≤ bs.length)
    (pr : β → α) (hpr : ∀ a b, V2 a b → pr b = a) : Sp (bind_ p f) (fun b => e1 (pr b) ++ e2 (pr b) b) (fun b => V1 (pr b) ∧ V2 (pr b) b) where
  sound := fun bs q b q' hb hq h => by
    unfold bind_ at h
    split at h
    · next a q1 h1 =>
      obtain ⟨v1, l1, m1, t1, d1⟩ := hp.sound bs q a q1 hb hq h1
      obtain ⟨v2, l2, m2, t2, d2⟩ := (hf a v1).sound bs q1 b q' hb m1 h
      have hpb := hpr a b v2
      have hd := (drop_len hq d1).2
      rw [← l1] at hd
      refine ⟨by rw [hpb]; exact ⟨v1, v2⟩, ?_, m2, t2, ?_⟩
      · rw [hpb, List.length_append]; omega
      · rw [hpb, d1, ← hd, d2, List.append_assoc]
    · cases h
  full := fun bs q b t v hq h => by
    have h1 := hp.full bs q (pr b) (e2 (pr b) b ++ t) v.1 hq (by rw [h, List.append_assoc])
    have hd := drop_len hq (h.trans (List.append_assoc _ _ _))
    have h2 := (hf (pr b) v.1).full bs (q + (e1 (pr b)).length) b t v.2 hd.1 hd.2
    unfold bind_
    rw [h1]
    simp only
    rw [h2, List.length_append, Nat.add_assoc]
  cut := fun bs q b k v hq hk h => by
    rw [List.length_append] at hk
    unfold bind_
    by_cases hk1 : k < (e1 (pr b)).length
    · rw [List.take_append_of_le_length (by omega)] at h
      rw [hp.cut bs q (pr b) k v.1 hq hk1 h]
    · obtain ⟨m, rfl⟩ : ∃ m, k = (e1 (pr b)).length + m := ⟨k - (e1 (pr b)).length, by omega⟩
      rw [List.take_length_add_append] at h
      have h1 := hp.full bs q (pr b) _ v.1 hq h
      have hd := drop_len hq h
      rw [h1]
      exact (hf (pr b) v.1).cut bs _ b m v.2 hd.1 (by omega) hd.2
  place := fun bs q x y hq h => by
    unfold bind_ at h
    split at h
    · next a q1 h1 => exact hpl a bs q1 x y (hle bs q a q1 hq h1) h
    · next h1 =>
      cases h
      exact hp.place bs q _ _ hq h1

theorem Sp.pure {α : Type} (a : α) : Sp (pure_ a) (fun _ => []) (fun b => b = a) where
  sound := fun bs q b q' _ hq h => by
    unfold pure_ at h
    cases h
    exact ⟨rfl, rfl, hq, _, rfl⟩
  full := fun bs q b t v _ _ => by subst v; rfl
  cut := fun bs q b k _ _ hk _ => absurd hk (Nat.not_lt_zero k)
  place := fun bs q x y _ h => by cases h

/-- The same by other words. -/
theorem Sp.as {α : Type} {p : Par α} {e e' : α → List Nat} {V V' : α → Prop} (h : Sp p e V) (hv : ∀ a, V' a ↔ V a) (he : ∀ a, V a → e' a = e a) : Sp p e' V' where
  sound := fun bs q a q' hb hq h1 => by
    have h2 := h.sound bs q a q' hb hq h1
    rw [he a h2.1]
    exact ⟨(hv a).2 h2.1, h2.2⟩
  full := fun bs q a t v hq h1 => by
    rw [he a ((hv a).1 v)] at h1 ⊢
    exact h.full bs q a t ((hv a).1 v) hq h1
  cut := fun bs q a k v hq hk h1 => by
    rw [he a ((hv a).1 v)] at h1 hk
    exact h.cut bs q a k ((hv a).1 v) hq hk h1
  place := h.place

theorem numB_len (k u : Nat) : (numB k u).length = k := by simp [numB]
theorem numB_at (k u j : Nat) (h : j < k) : (numB k u).getD j 0 = u / 2 ^ (8 * j) % 256 := by
  simp [numB, List.getD_eq_getElem?_getD, h]
theorem numB_lt (k u : Nat) : Byte (numB k u) := fun i => by
  by_cases h : i < k
  · rw [numB_at k u i h]; exact Nat.mod_lt _ (by decide)
  · rw [List.getD_eq_getElem?_getD, List.getElem?_eq_none (by rw [numB_len]; omega)]; decide

theorem sum_num (bs : List Nat) (q k u : Nat) (t : List Nat) (hu : u < 2 ^ (8 * k)) (h : bs.drop q = numB k u ++ t) : sumB bs q k = u := by
  rw [sumB_of bs q u k (fun j hj => by
    rw [getD_drop, h, List.getD_eq_getElem?_getD, List.getElem?_append_left (by rw [numB_len]; exact hj), ← List.getD_eq_getElem?_getD, numB_at k u j hj]), Nat.mod_eq_of_lt hu]

theorem num_sum (bs : List Nat) (q k : Nat) (hb : Byte bs) (h : q + k ≤ bs.length) : ∃ t, bs.drop q = numB k (sumB bs q k) ++ t := by
  refine ⟨bs.drop (q + k), ?_⟩
  apply List.ext_getElem?
  intro i
  by_cases hi : i < k
  · rw [List.getElem?_append_left (by rw [numB_len]; exact hi), List.getElem?_drop]
    have h1 := numB_at k (sumB bs q k) i hi
    rw [sumB_byte bs q hb k i hi, List.getD_eq_getElem?_getD, List.getD_eq_getElem?_getD] at h1
    have hl : i < (numB k (sumB bs q k)).length := by rw [numB_len]; exact hi
    have hl2 : q + i < bs.length := by omega
    rw [List.getElem?_eq_getElem hl, List.getElem?_eq_getElem hl2] at h1
    rw [List.getElem?_eq_getElem hl, List.getElem?_eq_getElem hl2]
    simpa using h1.symm
  · rw [List.getElem?_append_right (by rw [numB_len]; omega), numB_len, List.getElem?_drop, List.getElem?_drop]
    congr 1
    omega

theorem num_le {k : Nat} {f : Nat → Int} : ∀ (bs : List Nat) (q : Nat) (a : Nat) (q' : Nat), q ≤ bs.length → numP k f bs q = .ok a q' → q' ≤ bs.length := fun bs q a q' _ h => by
  unfold numP at h
  split at h
  · cases h
  · split at h
    · cases h
    · cases h
      omega

theorem Sp.num (k : Nat) (f : Nat → Int) : Sp (numP k f) (numB k) (fun n => f n = 0 ∧ n < 2 ^ (8 * k)) where
  sound := fun bs q a q' hb hq h => by
    unfold numP at h
    split at h
    · cases h
    · next h1 =>
      split at h
      · cases h
      · next h2 =>
        cases h
        exact ⟨⟨by simpa using h2, sumB_lt bs q hb k⟩, by rw [numB_len], by omega, num_sum bs q k hb (by omega)⟩
  full := fun bs q a t v hq h => by
    have hl := drop_len hq h
    rw [numB_len] at hl
    unfold numP
    rw [sum_num bs q k a t v.2 h, if_neg (by omega), if_neg (by simp [v.1]), numB_len]
  cut := fun bs q a j v hq hj h => by
    have h1 := congrArg List.length h
    rw [List.length_drop, List.length_take, numB_len] at h1
    rw [numB_len] at hj
    unfold numP
    rw [if_pos (by omega)]
  place := fun bs q x y hq h => by
    unfold numP at h
    split at h
    · cases h
      omega
    · split at h
      · next h2 =>
        cases h
        exact ⟨h2, by omega, by omega⟩
      · cases h

def VL {α : Type} (V : List α → α → Prop) : List α → List α → Prop
  | _, [] => True
  | acc, a :: r => V acc a ∧ VL V (acc ++ [a]) r

theorem rep_le {α : Type} {f : List α → Par α} (hle : ∀ acc (bs : List Nat) (q : Nat) (a : α) (q' : Nat), q ≤ bs.length → f acc bs q = .ok a q' → q' ≤ bs.length) : ∀ (m : Nat) (acc : List α) (bs : List Nat) (q : Nat) (a : List α) (q' : Nat), q ≤ bs.length → repP f m acc bs q = .ok a q' → q' ≤ bs.length
  | 0, acc, bs, q, a, q', hq, h => by
    unfold repP pure_ at h
    cases h
    exact hq
  | m + 1, acc, bs, q, a, q', hq, h => by
    unfold repP bind_ at h
    split at h
    · next b q1 h1 => exact rep_le hle m _ bs q1 a q' (hle acc bs q b q1 hq h1) h
    · cases h

theorem rep_place {α : Type} {f : List α → Par α} (hle : ∀ acc (bs : List Nat) (q : Nat) (a : α) (q' : Nat), q ≤ bs.length → f acc bs q = .ok a q' → q' ≤ bs.length)
    (hpl : ∀ acc (bs : List Nat) (q : Nat) (x y : Int), q ≤ bs.length → f acc bs q = .er x y → x ≠ 0 ∧ 0 ≤ y ∧ y ≤ bs.length) : ∀ (m : Nat) (acc : List α) (bs : List Nat) (q : Nat) (x y : Int), q ≤ bs.length → repP f m acc bs q = .er x y → x ≠ 0 ∧ 0 ≤ y ∧ y ≤ bs.length
  | 0, acc, bs, q, x, y, hq, h => by cases h
  | m + 1, acc, bs, q, x, y, hq, h => by
    unfold repP bind_ at h
    split at h
    · next b q1 h1 => exact rep_place hle hpl m _ bs q1 x y (hle acc bs q b q1 hq h1) h
    · next h1 =>
      cases h
      exact hpl acc bs q _ _ hq h1

theorem Sp.rep {α : Type} [Inhabited α] {f : List α → Par α} {e : α → List Nat} {V : List α → α → Prop} (hf : ∀ acc, Sp (f acc) e (V acc))
    (hle : ∀ acc (bs : List Nat) (q : Nat) (a : α) (q' : Nat), q ≤ bs.length → f acc bs q = .ok a q' → q' ≤ bs.length) : ∀ (m : Nat) (acc : List α),
    Sp (repP f m acc) (fun r => (r.drop acc.length).flatMap e) (fun r => ∃ l, r = acc ++ l ∧ l.length = m ∧ VL V acc l)
  | 0, acc => (Sp.pure acc).as (fun a => ⟨fun ⟨l, h1, h2, _⟩ => by rw [h1, List.eq_nil_of_length_eq_zero h2, List.append_nil], fun h => ⟨[], by simpa using h, rfl, trivial⟩⟩) (fun a h => by subst h; simp)
  | m + 1, acc => by
    have hb := Sp.bind (hf acc) (e2 := fun a r => (r.drop (acc ++ [a]).length).flatMap e) (V2 := fun a r => ∃ l, r = (acc ++ [a]) ++ l ∧ l.length = m ∧ VL V (acc ++ [a]) l) (fun a _ => Sp.rep hf hle m (acc ++ [a]))
      (fun a bs q x y hq h => rep_place hle (fun acc => (hf acc).place) m _ bs q x y hq h) (hle acc) (fun r => r.getD acc.length default) (fun a r ⟨l, h1, _⟩ => by subst h1; simp)
    refine hb.as (fun r => ⟨?_, ?_⟩) (fun r h => ?_)
    · rintro ⟨l, rfl, h2, h3⟩
      cases l with
      | nil => cases h2
      | cons a l =>
        have e1 : (acc ++ a :: l).getD acc.length default = a := by simp
        rw [e1]
        exact ⟨h3.1, l, by simp, by simpa using h2, h3.2⟩
    · rintro ⟨h1, l, h2, h3, h4⟩
      refine ⟨r.getD acc.length default :: l, ?_, by simp [h3], ⟨h1, h4⟩⟩
      generalize r.getD acc.length default = a at h2 ⊢
      rw [h2, List.append_assoc]
      rfl
    · obtain ⟨h1, l, h2, h3, h4⟩ := h
      generalize r.getD acc.length default = a at h1 h2 h4 ⊢
      subst h2
      have e1 : (acc ++ [a] ++ l).drop acc.length = a :: l := by rw [List.append_assoc, List.drop_left]; rfl
      have e2 : (acc ++ [a] ++ l).drop (acc ++ [a]).length = l := by rw [List.drop_left]
      rw [e1, e2, List.flatMap_cons]

/-- So many of them, and how many first. -/
theorem Sp.list {α : Type} [Inhabited α] {k : Nat} {c : Nat → Int} {f : Nat → List α → Par α} {e : α → List Nat} {V : Nat → List α → α → Prop} (hf : ∀ n acc, Sp (f n acc) e (V n acc))
    (hle : ∀ n acc (bs : List Nat) (q : Nat) (a : α) (q' : Nat), q ≤ bs.length → f n acc bs q = .ok a q' → q' ≤ bs.length) :
    Sp (bind_ (numP k c) fun n => repP (f n) n []) (fun l => numB k l.length ++ l.flatMap e) (fun l => (c l.length = 0 ∧ l.length < 2 ^ (8 * k)) ∧ VL (V l.length) [] l) := by
  have hb := Sp.bind (Sp.num k c) (f := fun n => repP (f n) n []) (e2 := fun _ r => (r.drop 0).flatMap e) (V2 := fun n r => ∃ l, r = [] ++ l ∧ l.length = n ∧ VL (V n) [] l) (fun n _ => Sp.rep (hf n) (hle n) n [])
    (fun n bs q x y hq h => rep_place (hle n) (fun acc => (hf n acc).place) n _ bs q x y hq h) num_le List.length (fun n r ⟨l, h1, h2, _⟩ => by subst h1; simpa using h2)
  refine hb.as (fun l => ⟨fun ⟨h1, h2⟩ => ⟨h1, l, rfl, rfl, h2⟩, fun ⟨h1, l', h2, h3, h4⟩ => ?_⟩) (fun l _ => by simp)
  have : l' = l := by simpa using h2.symm
  subst this
  exact ⟨h1, h4⟩

theorem list_le {α : Type} {k : Nat} {c : Nat → Int} {f : Nat → List α → Par α} (hle : ∀ n acc (bs : List Nat) (q : Nat) (a : α) (q' : Nat), q ≤ bs.length → f n acc bs q = .ok a q' → q' ≤ bs.length) :
    ∀ (bs : List Nat) (q : Nat) (a : List α) (q' : Nat), q ≤ bs.length → (bind_ (numP k c) fun n => repP (f n) n []) bs q = .ok a q' → q' ≤ bs.length := fun bs q a q' hq h => by
  unfold bind_ at h
  split at h
  · next n q1 h1 => exact rep_le (hle n) n [] bs q1 a q' (num_le bs q n q1 hq h1) h
  · cases h

theorem bind_le {α β : Type} {p : Par α} {f : α → Par β} (hp : ∀ (bs : List Nat) (q : Nat) (a : α) (q' : Nat), q ≤ bs.length → p bs q = .ok a q' → q' ≤ bs.length)
    (hf : ∀ a (bs : List Nat) (q : Nat) (b : β) (q' : Nat), q ≤ bs.length → f a bs q = .ok b q' → q' ≤ bs.length) : ∀ (bs : List Nat) (q : Nat) (b : β) (q' : Nat), q ≤ bs.length → bind_ p f bs q = .ok b q' → q' ≤ bs.length := fun bs q b q' hq h => by
  unfold bind_ at h
  split at h
  · next a q1 h1 => exact hf a bs q1 b q' (hp bs q a q1 hq h1) h
  · cases h
theorem bind_place {α β : Type} {p : Par α} {f : α → Par β} (hp : ∀ (bs : List Nat) (q : Nat) (a : α) (q' : Nat), q ≤ bs.length → p bs q = .ok a q' → q' ≤ bs.length)
    (hpp : ∀ (bs : List Nat) (q : Nat) (x y : Int), q ≤ bs.length → p bs q = .er x y → x ≠ 0 ∧ 0 ≤ y ∧ y ≤ bs.length)
    (hf : ∀ a (bs : List Nat) (q : Nat) (x y : Int), q ≤ bs.length → f a bs q = .er x y → x ≠ 0 ∧ 0 ≤ y ∧ y ≤ bs.length) : ∀ (bs : List Nat) (q : Nat) (x y : Int), q ≤ bs.length → bind_ p f bs q = .er x y → x ≠ 0 ∧ 0 ≤ y ∧ y ≤ bs.length := fun bs q x y hq h => by
  unfold bind_ at h
  split at h
  · next a q1 h1 => exact hf a bs q1 x y (hp bs q a q1 hq h1) h
  · next h1 =>
    cases h
    exact hpp bs q _ _ hq h1
theorem pure_le {α : Type} {a : α} : ∀ (bs : List Nat) (q : Nat) (b : α) (q' : Nat), q ≤ bs.length → pure_ a bs q = .ok b q' → q' ≤ bs.length := fun bs q b q' hq h => by
  cases h
  exact hq
theorem pure_place {α : Type} {a : α} : ∀ (bs : List Nat) (q : Nat) (x y : Int), q ≤ bs.length → pure_ a bs q = .er x y → x ≠ 0 ∧ 0 ≤ y ∧ y ≤ bs.length := fun bs q x y _ h => by cases h
theorem bind_assoc {α β γ : Type} (x : Par α) (f : α → Par β) (g : β → Par γ) : bind_ (bind_ x f) g = bind_ x (fun a => bind_ (f a) g) := by
  funext bs p
  unfold bind_
  cases x bs p <;> rfl
theorem pure_bind {α β : Type} (a : α) (f : α → Par β) : bind_ (pure_ a) f = f a := rfl
theorem vl_all {α : Type} {Q : α → Prop} : ∀ (l acc : List α), VL (fun _ a => Q a) acc l ↔ ∀ a ∈ l, Q a
  | [], acc => by simp [VL]
  | a :: r, acc => by simp [VL, vl_all r (acc ++ [a])]
theorem flat_len {α : Type} (e : α → List Nat) (m : Nat) : ∀ (l : List α), (∀ a ∈ l, (e a).length ≤ m) → (l.flatMap e).length ≤ l.length * m
  | [], _ => by simp
  | a :: r, h => by
    have := flat_len e m r (fun x hx => h x (List.mem_cons_of_mem _ hx))
    have h1 := h a List.mem_cons_self
    rw [List.flatMap_cons, List.length_append, List.length_cons, Nat.add_mul]
    omega
theorem vl_mem {α : Type} {V : List α → α → Prop} {Q : α → Prop} (hq : ∀ acc a, V acc a → Q a) : ∀ (l acc : List α), VL V acc l → ∀ a ∈ l, Q a
  | [], _, _, a, h => by cases h
  | b :: r, acc, h, a, ha => by
    rcases List.mem_cons.1 ha with rfl | ha
    · exact hq acc _ h.1
    · exact vl_mem hq r _ h.2 a ha
theorem flat_byte {α : Type} (e : α → List Nat) (he : ∀ a, ∀ y ∈ e a, y < 256) (l : List α) : ∀ y ∈ l.flatMap e, y < 256 := fun y hy => by
  obtain ⟨a, _, h⟩ := List.mem_flatMap.1 hy
  exact he a y h
theorem byte_of_mem {l : List Nat} (h : ∀ y ∈ l, y < 256) : Byte l := fun i => by
  rw [List.getD_eq_getElem?_getD]
  cases hc : l[i]? with
  | none => simp
  | some y => exact h y (List.mem_of_getElem? hc)
theorem mem_of_byte {l : List Nat} (h : Byte l) : ∀ y ∈ l, y < 256 := fun y hy => by
  obtain ⟨i, hi, rfl⟩ := List.getElem_of_mem hy
  have := h i
  rwa [List.getD_eq_getElem?_getD, List.getElem?_eq_getElem hi] at this
theorem numB_mem (k u : Nat) : ∀ y ∈ numB k u, y < 256 := mem_of_byte (numB_lt k u)
end Go.Proofs.Ytnkanaccacephaa
