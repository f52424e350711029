/- Another program in a config of the call's own. -/
import Derived.Test.YtmjokinagbpihaaDoorKW2
import Derived.Test.YtmjokinagbpihaaDoorKR2
namespace Go.Proofs.YtmjokinagbpihaaDoor
open Go.RowKit

theorem rem_at (z : Int) {n : Nat} (hn : 0 < n) : ∃ k : Nat, k < n ∧ ((0 ≤ z.tmod n ∧ z.tmod n = (k : Int)) ∨ (z.tmod n < 0 ∧ z.tmod n + n = (k : Int))) := by
  have h1 : z.tmod n < (n : Int) := Int.tmod_lt_of_pos z (by omega)
  have h2 : -(n : Int) < z.tmod n := by
    have := Int.lt_tmod_of_pos z (b := (n : Int)) (by omega)
    omega
  by_cases h : 0 ≤ z.tmod n
  · exact ⟨(z.tmod n).toNat, by omega, .inl ⟨h, by omega⟩⟩
  · exact ⟨(z.tmod n + n).toNat, by omega, .inr ⟨by omega, by omega⟩⟩

theorem getD_set_ne {α : Type} (l : List α) (i j : Nat) (x d : α) (h : i ≠ j) : (l.set j x).getD i d = l.getD i d := by
  rw [List.getD_eq_getElem?_getD, List.getD_eq_getElem?_getD, List.getElem?_set_ne (fun e => h e.symm)]
theorem getD_set_eq {α : Type} (l : List α) (j : Nat) (x d : α) (h : j < l.length) : (l.set j x).getD j d = x := by
  rw [List.getD_eq_getElem?_getD, List.getElem?_set_self h]
  rfl

theorem prs_set {W : World} {b : Nat} {ms : List PrM} {j : Nat} {m : PrM} {cur : Array Value} {T : TypeId} (h : Rd W (some ⟨b, 0, none⟩) (psC ms)) (hj : j < ms.length) (hp : m.p.part = (ms.getD j default).p.part) (hb : W.heap[b]? = some (.cells cur T (0, 0))) :
    Rd (W.setCell ⟨b, j * 2 + 1, none⟩ (.slice m.a m.p.code.length m.c)) (some ⟨b, 0, none⟩) (psC (ms.set j m)) := by
  intro q u hq
  have hlen : q < (ms.set j m).length * 2 := by
    have := (List.getElem?_eq_some_iff.1 hq).1
    rwa [psC_len] at this
  rw [List.length_set] at hlen
  have hset := heap_setCell_same W b (j * 2 + 1) _ _ (.slice m.a m.p.code.length m.c) hb
  have old : ∀ q v, (psC ms)[q]? = some v → cur[q]? = some v := fun q v hv => by
    obtain ⟨b', o', e, hc⟩ := h q v hv
    cases e
    rw [Nat.zero_add, cell_of_row _ _ _ _ _ _ hb] at hc
    exact hc
  have hjc : j * 2 + 1 < cur.size := by
    have := old _ _ (psC_at ms j hj).2
    exact (Array.getElem?_eq_some_iff.1 this).1
  refine ⟨b, 0, rfl, ?_⟩
  rw [Nat.zero_add, cell_of_row _ _ _ _ _ _ hset]
  have hi : q / 2 < ms.length := by omega
  have hi' : q / 2 < (ms.set j m).length := by rw [List.length_set]; exact hi
  have hr : q = q / 2 * 2 ∨ q = q / 2 * 2 + 1 := by omega
  by_cases hij : q / 2 = j
  · rcases hr with hr | hr
    · have h1 := (psC_at (ms.set j m) (q / 2) hi').1
      rw [← hr, hq, hij, getD_set_eq _ _ _ _ hj, hp] at h1
      rw [Array.getElem?_setIfInBounds_ne (by omega), h1]
      have h2 := (psC_at ms j hj).1
      rw [← hij, ← hr] at h2
      rw [hij] at h2
      exact old _ _ h2
    · have h1 := (psC_at (ms.set j m) (q / 2) hi').2
      rw [← hr, hq, hij, getD_set_eq _ _ _ _ hj] at h1
      rw [h1, show q = j * 2 + 1 by omega, Array.getElem?_setIfInBounds_self_of_lt hjc]
  · have hne : j * 2 + 1 ≠ q := by omega
    rw [Array.getElem?_setIfInBounds_ne hne]
    apply old
    rcases hr with hr | hr
    · have h1 := (psC_at (ms.set j m) (q / 2) hi').1
      have h2 := (psC_at ms (q / 2) hi).1
      rw [getD_set_ne _ _ _ _ _ hij, ← hr] at h1
      rw [← hr] at h2
      rw [← hq, h1, h2]
    · have h1 := (psC_at (ms.set j m) (q / 2) hi').2
      have h2 := (psC_at ms (q / 2) hi).2
      rw [getD_set_ne _ _ _ _ _ hij, ← hr] at h1
      rw [← hr] at h2
      rw [← hq, h1, h2]

/-- Another program at one of its processes. -/
theorem code_set {B : Nat} {W : World} {c : Cfg} {g : Loc} {b : Nat} (h : CfO B W c g) (hpa : g.pa = some ⟨b, 0, none⟩) {j : Nat} (hj : j < g.ms.length) (al : Option Addr) (l : List Ins) (cl : Nat) (hl : Rd W al (pCells l)) (hlb : ∀ k, blk al = some k → l ≠ [] → k ≠ b) {cur : Array Value} {T : TypeId} (hb : W.heap[b]? = some (.cells cur T (0, 0))) :
    CfR (W.setCell ⟨b, j * 2 + 1, none⟩ (.slice al l.length cl)) { c with procs := c.procs.set j ⟨(g.ms.getD j default).p.part, l⟩ } { g with ms := g.ms.set j ⟨⟨(g.ms.getD j default).p.part, l⟩, al, cl⟩ } := by
  have hm : Mod (fun k => k = b) W (W.setCell ⟨b, j * 2 + 1, none⟩ (.slice al l.length cl)) := (Mod.refl (fun k => k = b) W).setCell (.inl rfl) _
  have o2 := h.own.perm (List.perm_middle (l₁ := [_, _]))
  have hap := (List.pairwise_cons.1 o2.apart).1
  have rd : ∀ x ∈ (⟨65, 1, g.la, c.labels.length, g.lc, labC c.labels⟩ :: ⟨3, 1, g.ta, c.table.length, g.tc, iC c.table⟩ :: g.ms.map prD : List RowD), Rd (W.setCell ⟨b, j * 2 + 1, none⟩ (.slice al l.length cl)) x.a x.xs := fun x hx =>
    (Row.mod (o2.ok x (List.mem_cons_of_mem _ hx)) hm (fun k hk e => hap x hx b (by simp only [hpa]; rfl) (by rw [hk, e]))).rd
  refine ⟨rd _ List.mem_cons_self, rd _ (List.mem_cons_of_mem _ List.mem_cons_self), ?_, ?_, ?_⟩
  · have h1 := h.rd.prs
    rw [hpa] at h1
    have h2 := prs_set (m := ⟨⟨(g.ms.getD j default).p.part, l⟩, al, cl⟩) h1 hj rfl hb
    simp only [hpa]
    exact h2
  · intro m hm2
    simp only at hm2
    rcases List.mem_or_eq_of_mem_set hm2 with h1 | h1
    · exact rd (prD m) (List.mem_cons_of_mem _ (List.mem_cons_of_mem _ (List.mem_map_of_mem h1)))
    · subst h1
      simp only
      by_cases hx : l = []
      · subst hx
        exact fun q u hq => by simp [pCells] at hq
      · exact fun q u hq => by
          obtain ⟨b', o', e, hc⟩ := hl q u hq
          subst e
          exact ⟨b', o', rfl, (hm.cell (p := ⟨b', o' + q, none⟩) (World.block_lt_of_cell? W _ hc) (hlb b' rfl hx)).trans hc⟩
  · simp only
    rw [← h.ps]
    simp [psOf, List.map_set]
theorem skB_set (c : Cfg) (j : Nat) (p : Pr) (hj : j < c.procs.length) (hp : p.part = (c.procs.getD j default).part) : skB c { c with procs := c.procs.set j p } = true := by
  have h1 : parts (c.procs.set j p) = parts c.procs := by
    unfold parts
    rw [List.map_set, hp]
    apply List.ext_getElem?
    intro i
    by_cases h : j = i
    · subst h
      rw [List.getElem?_set_self (by simpa using hj)]
      simp [List.getD_eq_getElem?_getD, List.getElem?_eq_getElem hj]
    · rw [List.getElem?_set_ne h]
  simp [skB, nmE, h1]
end Go.Proofs.YtmjokinagbpihaaDoor
