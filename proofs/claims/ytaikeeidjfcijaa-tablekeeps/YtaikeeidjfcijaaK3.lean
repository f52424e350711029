/- append, and whether the old row was left alone; lists of rows of the call's own. -/
import Derived.Test.YtaikeeidjfcijaaK1
namespace Go.Proofs.Ytaikeeidjfcijaa
open Go.RowKit Go.Maps

theorem run_append_two {P : Program} (w : World) (t ty : TypeId) (e : TypeId) (i : TypeInfo) (z : Value) (bytes : Nat) (ht : P.underlying t = some (.slice e)) (hi : P.info? e = some i) (hz : i.zero = some z)
    (hsize : i.size = 1) (hby : i.bytes = bytes) (hzs : z.cells.size = 1)
    (v : Value) (n : Nat) (xs : List Value) (hown : w.ownsRow 0 e 1 v n xs)
    (ad : Addr) (m c : Nat) (news : List Value) (hl : news.length = m * 1) (hnews : ∀ j u, news[j]? = some u → w.cell? (ad.add j) = some u) (h1 : ∀ u ∈ news, u.oneCell' = true)
    (hm : 0 < m) (h63 : n + m ≤ maxLen) (hbytes : (n + m) * bytes ≤ 140737488355328) :
    ∃ g cap w', (Builtin.append_ #[t, t] ty #[v, .slice (some ad) m c]).run P w = .ok (.slice (some ⟨g, 0, none⟩) (n + m) cap) w' ∧
      w'.ownsRow 0 e 1 (.slice (some ⟨g, 0, none⟩) (n + m) cap) (n + m) (xs ++ news) ∧ ((v.ownBlock = some g ∧ w.grownBy w' v.ownBlock) ∨ (g = w.heap.size ∧ w.grownBy w' none)) := by
  obtain ⟨g, cap, w', hr, h2, h3, h4, _⟩ := run_append_lies (P := P) w t ty 0 e i z 1 bytes ht hi hz hsize hby hzs (by decide) v n xs hown ad m c news hl hnews h1 hm h63 hbytes (Nat.zero_le _) _ rfl
  refine ⟨g, cap, w', hr, h2, ?_⟩
  rcases hown.2 with ⟨rfl, rfl⟩ | ⟨g0, cap0, cur, rfl, hbg, hg, hnc, hcm, hcs, htake⟩
  · rcases h4 with h4 | h4
    · simp [Value.ownBlock] at h4
    · exact .inr ⟨h4, h3⟩
  · by_cases hroom : n + m ≤ cap0
    · have hr2 := run_append_room (P := P) w t ty e i ht hi g0 n cap0 cur hg ad m c news (by rw [hsize]; exact hl) hnews h1 hroom (by rw [hsize, hl, hcs]; omega)
      rw [hr] at hr2
      simp only [Result.ok.injEq, Value.slice.injEq, Option.some.injEq, Addr.mk.injEq] at hr2
      exact .inl ⟨by rw [hr2.1.1.1]; rfl, h3⟩
    · have holds : ∀ j u, xs[j]? = some u → w.cell? ((⟨g0, 0, none⟩ : Addr).add j) = some u := hown.cells (g := g0) rfl
      have hr2 := run_append_grow (P := P) w t ty e i z ht hi hz ⟨g0, 0, none⟩ n cap0 xs (by rw [hsize]; exact hown.1) holds ad m c news (by rw [hsize]; exact hl) hnews (by omega) (by unfold maxLen at h63; omega) (growslice_fits (by omega) (by rw [hby]; exact hbytes))
      rw [hr] at hr2
      simp only [Result.ok.injEq, Value.slice.injEq, Option.some.injEq, Addr.mk.injEq] at hr2
      refine .inr ⟨hr2.1.1.1, ?_⟩
      rw [hr2.2]
      exact ⟨rfl, rfl, rfl, by simp, fun k hk _ => _root_.Go.heap_alloc_old w.drew _ hk⟩

theorem wpList_append_two {P : Program} (w : World) {ops : Array Oper} {rest : List Oper} {o : Oper} {a : Act} {Q : Exit → Act → World → Prop} (hgd : o.guard = none) (s x : Operand) (t : TypeId)
    (ho : o.op = .call { callee := .builtin .append, args := #[s, x], argTypes := #[t, t] })
    (e : TypeId) (i : TypeInfo) (z : Value) (bytes : Nat) (ht : P.underlying t = some (.slice e)) (hi : P.info? e = some i) (hz : i.zero = some z)
    (hsize : i.size = 1) (hby : i.bytes = bytes) (hzs : z.cells.size = 1)
    (v : Value) (n : Nat) (xs : List Value) (hs : a.eval s = v) (hown : w.ownsRow 0 e 1 v n xs)
    (ad : Addr) (m c : Nat) (news : List Value) (hx : a.eval x = .slice (some ad) m c) (hl : news.length = m * 1) (hnews : ∀ j u, news[j]? = some u → w.cell? (ad.add j) = some u) (h1 : ∀ u ∈ news, u.oneCell' = true)
    (hm : 0 < m) (h63 : n + m ≤ maxLen) (hbytes : (n + m) * bytes ≤ 140737488355328)
    (h : ∀ g cap w', w'.ownsRow 0 e 1 (.slice (some ⟨g, 0, none⟩) (n + m) cap) (n + m) (xs ++ news) → ((v.ownBlock = some g ∧ w.grownBy w' v.ownBlock) ∨ (g = w.heap.size ∧ w.grownBy w' none)) → wpList P ops Q rest (a.put o.dst (.slice (some ⟨g, 0, none⟩) (n + m) cap)) w') : wpList P ops Q (o :: rest) a w :=
  wpList_plain hgd fun K hK => by
    obtain ⟨g, cap, w', hr, h2, h3⟩ := run_append_two (P := P) w t o.type e i z bytes ht hi hz hsize hby hzs v n xs hown ad m c news hl hnews h1 hm h63 hbytes
    unfold Oper.wp execOp
    simp only [ho, resolve, invoke, builtin, Sem.run_bind, Sem.run_pure, Result.andThen_ok, List.map_toArray, List.map_cons, List.map_nil, hs, hx, hr]
    exact hK _ _ (h g cap w' h2 h3)

/-- What 'append' leaves of the blocks. -/
def Two (w w' : World) (ob : Option Nat) (g : Nat) : Prop := (ob = some g ∧ w.grownBy w' ob) ∨ (g = w.heap.size ∧ w.grownBy w' none)

theorem grown_weak {w w' : World} {ob : Option Nat} (h : w.grownBy w' none) : w.grownBy w' ob := ⟨h.os, h.tape, h.output, h.size, fun k hk _ => h.block k hk (by simp)⟩

theorem Two.grown {w w' : World} {ob : Option Nat} {g : Nat} (h : Two w w' ob g) : w.grownBy w' ob := by
  rcases h with ⟨_, h⟩ | ⟨_, h⟩
  · exact h
  · exact grown_weak h
theorem Two.at {w w' : World} {ob : Option Nat} {g : Nat} (h : Two w w' ob g) : ob = some g ∨ g = w.heap.size := by
  rcases h with ⟨h, _⟩ | ⟨h, _⟩
  · exact .inl h
  · exact .inr h

/-- The first cells of a row, all alike, stay so through an append to it. -/
theorem cells_two {w w1 : World} {ob : Option Nat} {b : Nat} {n m g cap : Nat} {u : Value} (hc : ∀ k, k < n → w.cell? ⟨b, k, none⟩ = some u) (h : Two w w1 ob g)
    (hown : w1.ownsRow 0 3 1 (.slice (some ⟨g, 0, none⟩) m cap) m (List.replicate m u)) (hnm : n ≤ m) : ∀ k, k < n → w1.cell? ⟨b, k, none⟩ = some u := fun k hk => by
  rcases h with ⟨h1, h2⟩ | ⟨h1, h2⟩
  · by_cases e : b = g
    · subst e
      rw [hown.cellAt k (by omega), List.getElem?_replicate, if_pos (by omega)]
    · exact h2.cell (hc k hk) (by rw [h1]; simpa using e)
  · exact h2.cell (hc k hk) (by simp)

theorem info33 : (Try.prog.info? 33).map (fun i => (i.zero, i.size, i.bytes)) = some (some (.slice none 0 0), 1, 24) := by kernel_rfl

/-- Rows of ints of the call's own, each at a block of its own, none at the block ob. -/
structure OwnRows (w : World) (ob : Option Nat) (B : Nat) (vs : List Value) : Prop where
  each : ∀ (j : Nat) v, vs[j]? = some v → ∃ n xs, n ≤ 8 ∧ w.ownsRow B 3 1 v n xs
  apart : ∀ (i j : Nat) v v' b, vs[i]? = some v → vs[j]? = some v' → v.ownBlock = some b → v'.ownBlock = some b → i = j
  away : ∀ (j : Nat) v b, vs[j]? = some v → v.ownBlock = some b → ob ≠ some b
  obl : ∀ b, ob = some b → b < w.heap.size

theorem OwnRows.nil (w : World) (ob : Option Nat) (B : Nat) (h : ∀ b, ob = some b → b < w.heap.size) : OwnRows w ob B [] := ⟨fun j v h => by simp at h, fun i j v v' b h => by simp at h, fun j v b h => by simp at h, h⟩

theorem OwnRows.lt {w : World} {ob : Option Nat} {B : Nat} {vs : List Value} (h : OwnRows w ob B vs) {j : Nat} {v : Value} {b : Nat} (hv : vs[j]? = some v) (hb : v.ownBlock = some b) : B ≤ b ∧ b < w.heap.size := by
  obtain ⟨n, xs, _, ho⟩ := h.each j v hv
  exact ho.lt b hb

theorem OwnRows.below {w w' : World} {ob : Option Nat} {B : Nat} {vs : List Value} (h : OwnRows w ob B vs) (hb : Below w.heap.size w w') : OwnRows w' ob B vs :=
  ⟨fun j v hv => by
    obtain ⟨n, xs, h1, h2⟩ := h.each j v hv
    exact ⟨n, xs, h1, owns_below h2 hb⟩, h.apart, h.away, fun b hb' => Nat.lt_of_lt_of_le (h.obl b hb') hb.size⟩

theorem owns_mono {w : World} {B B' n : Nat} {e : TypeId} {v : Value} {xs : List Value} (h : w.ownsRow B e 1 v n xs) (hB : B' ≤ B) : w.ownsRow B' e 1 v n xs := by
  obtain ⟨h1, h2⟩ := h
  refine ⟨h1, ?_⟩
  rcases h2 with h2 | ⟨g, cap, cur, h2, h3, h4⟩
  · exact .inl h2
  · exact .inr ⟨g, cap, cur, h2, Nat.le_trans hB h3, h4⟩

theorem get_push {α : Type} {vs : List α} {v u : α} {j : Nat} (h : (vs ++ [v])[j]? = some u) : vs[j]? = some u ∨ (j = vs.length ∧ u = v) := by
  by_cases hj : j < vs.length
  · rw [List.getElem?_append_left hj] at h; exact .inl h
  · rw [List.getElem?_append_right (by omega)] at h
    have hj0 : j - vs.length = 0 := by
      rcases Nat.eq_zero_or_pos (j - vs.length) with h0 | h0
      · exact h0
      · rw [List.getElem?_eq_none (by simp; omega)] at h; cases h
    rw [hj0] at h
    simp at h
    exact .inr ⟨by omega, h.symm⟩

theorem get_lt {α : Type} {vs : List α} {u : α} {j : Nat} (h : vs[j]? = some u) : j < vs.length := by
  rcases Nat.lt_or_ge j vs.length with h0 | h0
  · exact h0
  · rw [List.getElem?_eq_none h0] at h; cases h

theorem OwnRows.push {w w' : World} {ob : Option Nat} {B n : Nat} {vs xs : List Value} {v : Value} (h : OwnRows w ob B vs) (hb : Below w.heap.size w w') (hv : w'.ownsRow w.heap.size 3 1 v n xs) (hn : n ≤ 8) (hB : B ≤ w.heap.size) : OwnRows w' ob B (vs ++ [v]) where
  each := fun j u hu => by
    rcases get_push hu with h1 | ⟨_, rfl⟩
    · exact (h.below hb).each j u h1
    · exact ⟨n, xs, hn, owns_mono hv hB⟩
  apart := fun i j u u' b hu hu' h1 h2 => by
    rcases get_push hu with k1 | ⟨k1, rfl⟩
    · rcases get_push hu' with k2 | ⟨k2, rfl⟩
      · exact h.apart i j u u' b k1 k2 h1 h2
      · have := (h.lt k1 h1).2
        have := (hv.lt b h2).1
        omega
    · rcases get_push hu' with k2 | ⟨k2, rfl⟩
      · have := (h.lt k2 h2).2
        have := (hv.lt b h1).1
        omega
      · omega
  away := fun j u b hu h1 => by
    rcases get_push hu with k1 | ⟨k1, rfl⟩
    · exact h.away j u b k1 h1
    · intro e
      have := h.obl b e
      have := (hv.lt b h1).1
      omega
  obl := fun b hb' => Nat.lt_of_lt_of_le (h.obl b hb') hb.size

theorem OwnRows.alloc {w : World} {ob : Option Nat} {B : Nat} {vs : List Value} (h : OwnRows w ob B vs) (o : Obj) : OwnRows (w.alloc o) ob B vs := h.below ((Below.refl _ w).alloc (Nat.le_refl _) o)

/-- Behind an append to another row. -/
theorem OwnRows.two {w w1 : World} {ob : Option Nat} {B g : Nat} {vs : List Value} (h : OwnRows w ob B vs) (k : Two w w1 ob g) (hg : g < w1.heap.size) : OwnRows w1 (some g) B vs where
  each := fun j v hv => by
    obtain ⟨n, xs, h1, h2⟩ := h.each j v hv
    exact ⟨n, xs, h1, owns_grown h2 k.grown (fun b hb e => h.away j v b hv hb e.symm)⟩
  apart := h.apart
  away := fun j v b hv hb e => by
    have e' : g = b := by simpa using e
    subst e'
    rcases k.at with h1 | h1
    · exact h.away j v g hv hb h1
    · have := (h.lt hv hb).2
      omega
  obl := fun b hb => by
    have e' : g = b := by simpa using hb
    subst e'; exact hg

end Go.Proofs.Ytaikeeidjfcijaa
