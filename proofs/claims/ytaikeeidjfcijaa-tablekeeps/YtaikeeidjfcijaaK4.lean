/- Rows that are written over one after the other, and the longer ones that come of them. -/
import Derived.Test.YtaikeeidjfcijaaK3
namespace Go.Proofs.Ytaikeeidjfcijaa
open Go.RowKit Go.Maps

/-- What is written into the row number j. -/
def mark (j : Nat) : Value := .int .i64 (100 + (j : Int))

theorem owns_block {w w' : World} {B n : Nat} {e : TypeId} {v : Value} {xs : List Value} (h : w.ownsRow B e 1 v n xs) (hb : ∀ b, v.ownBlock = some b → w'.heap[b]? = w.heap[b]?) : w'.ownsRow B e 1 v n xs := by
  obtain ⟨h1, h2⟩ := h
  refine ⟨h1, ?_⟩
  rcases h2 with h2 | ⟨g, cap, cur, rfl, h3, h4, h5⟩
  · exact .inl h2
  · exact .inr ⟨g, cap, cur, rfl, h3, by rw [hb g rfl]; exact h4, h5⟩

structure Long (wS : World) (B : Nat) (va : Value) (vs : List Value) (i : Nat) (vl : Value) (Ls : List Value) (w : World) : Prop where
  len : Ls.length = i
  size : wS.heap.size ≤ w.heap.size
  arow : w.ownsRow B 33 1 va vs.length vs
  lrow : w.ownsRow 0 33 1 vl i Ls
  todo : ∀ (j : Nat) v, i ≤ j → vs[j]? = some v → ∃ n xs, n ≤ 8 ∧ w.ownsRow B 3 1 v n xs
  done : ∀ (j : Nat) v L, vs[j]? = some v → Ls[j]? = some L → ∃ a n c, n ≤ 8 ∧ v = .slice a n c ∧ (∀ k, k < n → ∃ b, a = some ⟨b, 0, none⟩ ∧ w.cell? ⟨b, k, none⟩ = some (mark j)) ∧ w.ownsRow 0 3 1 L (n + 20) (List.replicate (n + 20) (mark j))
  lies : ∀ (j : Nat) v L b, vs[j]? = some v → Ls[j]? = some L → L.ownBlock = some b → v.ownBlock = some b ∨ wS.heap.size ≤ b
  lapart : ∀ (i j : Nat) L L' b, Ls[i]? = some L → Ls[j]? = some L' → L.ownBlock = some b → L'.ownBlock = some b → i = j
  laway : ∀ (j : Nat) L b, Ls[j]? = some L → L.ownBlock = some b → vl.ownBlock ≠ some b
  vlS : ∀ b, vl.ownBlock = some b → wS.heap.size ≤ b

theorem Long.next {wS ws wr w1 : World} {B i g cap n c : Nat} {a : Option Addr} {va vl L : Value} {vs Ls : List Value} {o : Obj}
    (hR : OwnRows wS va.ownBlock B vs) (hL : Long wS B va vs i vl Ls ws) (hv : vs[i]? = some (.slice a n c)) (hn : n ≤ 8)
    (hC : Chain ws (Value.slice a n c).ownBlock 3 L (n + 20) (List.replicate (n + 20) (mark i)) wr)
    (hcells : ∀ k, k < n → ∃ b, a = some ⟨b, 0, none⟩ ∧ wr.cell? ⟨b, k, none⟩ = some (mark i))
    (hown : w1.ownsRow 0 33 1 (.slice (some ⟨g, 0, none⟩) (i + 1) cap) (i + 1) (Ls ++ [L])) (h2 : Two (wr.alloc o) w1 vl.ownBlock g) :
    Long wS B va vs (i + 1) (.slice (some ⟨g, 0, none⟩) (i + 1) cap) (Ls ++ [L]) w1 := by
  have hsz := hL.size
  have hszr := hC.grown.size
  have hszr' : (wr.alloc o).heap.size = wr.heap.size + 1 := by simp
  have hsz1 := h2.grown.size
  have hvl := fun b (hb : vl.ownBlock = some b) => hL.lrow.lt b hb
  have keep1 : ∀ b, b < wr.heap.size → vl.ownBlock ≠ some b → w1.heap[b]? = wr.heap[b]? := fun b hb hne =>
    (h2.grown.block b (by omega) (fun e => hne e.symm)).trans (Below.heap_alloc wr o b hb)
  have keep : ∀ b, b < ws.heap.size → (Value.slice a n c).ownBlock ≠ some b → vl.ownBlock ≠ some b → w1.heap[b]? = ws.heap[b]? := fun b hb h1 hne =>
    (keep1 b (by omega) hne).trans (hC.grown.block b hb (fun e => h1 e.symm))
  have vlne : ∀ b, b < wS.heap.size → vl.ownBlock ≠ some b := fun b hb e => by
    have := hL.vlS b e
    omega
  have hLlt := fun b (hb : L.ownBlock = some b) => hC.own.lt b hb
  have hLvl : ∀ b, L.ownBlock = some b → vl.ownBlock ≠ some b := fun b hb e => by
    rcases hC.lies b hb with h | h
    · exact vlne b (hR.lt hv h.symm).2 e
    · have := (hvl b e).2
      omega
  have hLs : ∀ (j : Nat) v L' b, vs[j]? = some v → Ls[j]? = some L' → L'.ownBlock = some b → (Value.slice a n c).ownBlock ≠ some b ∧ b < ws.heap.size := fun j v L' b hj hj' hb => by
    obtain ⟨a', n', c', _, _, _, ho⟩ := hL.done j v L' hj hj'
    refine ⟨fun e => ?_, (ho.lt b hb).2⟩
    rcases hL.lies j v L' b hj hj' hb with h | h
    · have := hR.apart i j _ _ b hv hj e h
      have := get_lt hj'
      have := hL.len
      omega
    · have := (hR.lt hv e).2
      omega
  have vsome : ∀ j : Nat, j < i → ∃ v, vs[j]? = some v := fun j hj => ⟨_, List.getElem?_eq_getElem (by have := get_lt hv; omega)⟩
  refine ⟨by rw [List.length_append, hL.len]; rfl, by omega, ?_, hown, ?_, ?_, ?_, ?_, ?_, ?_⟩
  · refine owns_block hL.arow (fun b hb => keep b (by have := (hR.obl b hb); omega) (fun e => hR.away i _ b hv e hb) (vlne b (hR.obl b hb)))
  · intro j v hj hv'
    obtain ⟨n', xs, h1, h3⟩ := hL.todo j v (by omega) hv'
    refine ⟨n', xs, h1, owns_block h3 (fun b hb => ?_)⟩
    have hlt := (hR.lt hv' hb).2
    refine keep b (by omega) (fun e => ?_) (vlne b hlt)
    have := hR.apart i j _ _ b hv hv' e hb
    omega
  · intro j v L' hj hj'
    rcases get_push hj' with h | ⟨rfl, rfl⟩
    · obtain ⟨a', n', c', h1, rfl, h3, h4⟩ := hL.done j v L' hj h
      have hji : j < i := by have := get_lt h; have := hL.len; omega
      refine ⟨a', n', c', h1, rfl, fun k hk => ?_, owns_block h4 (fun b hb => ?_)⟩
      · obtain ⟨b, rfl, hb⟩ := h3 k hk
        have hlt := (hR.lt hj (b := b) rfl).2
        refine ⟨b, rfl, (World.cell?_of_block (keep b (by omega) (fun e => ?_) (vlne b hlt))).trans hb⟩
        have := hR.apart i j _ _ b hv hj e rfl
        omega
      · have := hLs j _ L' b hj h hb
        exact keep b this.2 this.1 (hL.laway j L' b h hb)
    · rw [hL.len] at hj
      rw [hj] at hv
      cases hv
      refine ⟨a, n, c, hn, rfl, fun k hk => ?_, ?_⟩
      · obtain ⟨b, rfl, hb⟩ := hcells k hk
        rw [hL.len]
        have hlt := (hR.lt hj (b := b) rfl).2
        exact ⟨b, rfl, (World.cell?_of_block (keep1 b (by omega) (vlne b hlt))).trans hb⟩
      · rw [hL.len]
        exact owns_block hC.own (fun b hb => keep1 b (hLlt b hb).2 (hLvl b hb))
  · intro j v L' b hj hj' hb
    rcases get_push hj' with h | ⟨rfl, rfl⟩
    · exact hL.lies j v L' b hj h hb
    · rw [hL.len] at hj
      rw [hj] at hv
      cases hv
      rcases hC.lies b hb with h | h
      · exact .inl h.symm
      · exact .inr (by omega)
  · have cross : ∀ (j : Nat) L' b, Ls[j]? = some L' → L'.ownBlock = some b → L.ownBlock = some b → False := fun j L' b h hb hb' => by
      obtain ⟨v, hj⟩ := vsome j (by have := get_lt h; have := hL.len; omega)
      have hx := hLs j v L' b hj h hb
      rcases hC.lies b hb' with h1 | h1
      · exact hx.1 h1.symm
      · omega
    intro i' j' L1 L2 b h1 h3 hb1 hb2
    rcases get_push h1 with k1 | ⟨k1, rfl⟩
    · rcases get_push h3 with k2 | ⟨k2, rfl⟩
      · exact hL.lapart i' j' L1 L2 b k1 k2 hb1 hb2
      · exact (cross i' L1 b k1 hb1 hb2).elim
    · rcases get_push h3 with k2 | ⟨k2, rfl⟩
      · exact (cross j' L2 b k2 hb2 hb1).elim
      · omega
  · intro j L' b hj' hb e
    have e' : g = b := by simpa [Value.ownBlock] using e
    subst e'
    have hlt : g < wr.heap.size ∧ vl.ownBlock ≠ some g := by
      rcases get_push hj' with h | ⟨_, rfl⟩
      · obtain ⟨v, hj⟩ := vsome j (by have := get_lt h; have := hL.len; omega)
        have hx := hLs j v L' g hj h hb
        exact ⟨by omega, hL.laway j L' g h hb⟩
      · exact ⟨(hLlt g hb).2, hLvl g hb⟩
    rcases h2.at with h | h
    · exact hlt.2 h
    · omega
  · intro b hb
    have e' : g = b := by simpa [Value.ownBlock] using hb
    subst e'
    rcases h2.at with h | h
    · exact hL.vlS g h
    · omega

theorem Long.start {wS w : World} {B : Nat} {va vl : Value} {vs : List Value} (hR : OwnRows wS va.ownBlock B vs) (hA : wS.ownsRow B 33 1 va vs.length vs) (hb : Below wS.heap.size wS w) (hl : w.ownsRow 0 33 1 vl 0 []) (hvl : ∀ b, vl.ownBlock = some b → wS.heap.size ≤ b) : Long wS B va vs 0 vl [] w where
  len := rfl
  size := hb.size
  arow := owns_below hA hb
  lrow := hl
  todo := fun j v _ hv => by
    obtain ⟨n, xs, h1, h2⟩ := hR.each j v hv
    exact ⟨n, xs, h1, owns_below h2 hb⟩
  done := fun j v L _ h => by simp at h
  lies := fun j v L b _ h => by simp at h
  lapart := fun i j L L' b h => by simp at h
  laway := fun j L b h => by simp at h
  vlS := hvl

end Go.Proofs.Ytaikeeidjfcijaa
