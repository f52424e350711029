/- Ways in memory: which numbers are marked, for both sides. -/
import Derived.Test.YtcmcapddijpidaaGW5
namespace Go.Proofs.Ytcmcapddijpidaa
open Go.RowKit Go.Maps

theorem fit_ends {e : Es} (hF : FitE e) {x : Int} (h : x ∈ ends e) : Fit64 x := by
  simp only [ends, List.mem_flatMap] at h
  obtain ⟨y, hy, hx⟩ := h
  have := hF y hy
  simp only [List.mem_cons, List.not_mem_nil, or_false] at hx
  rcases hx with rfl | rfl
  · exact this.1
  · exact this.2
theorem fit_nxs {e : Es} (hF : FitE e) : FitF (nxs e) := fun _ _ h => (hF _ (nxs_mem h)).2
theorem ends_nxs {e : Es} {x q : Int} (h : nxs e x = some q) : x ∈ ends e ∧ q ∈ ends e := mem_ends (nxs_mem h)
/-- The marks as the map has them. -/
def mkf (φ : Nat → Int) (cm : Cm) : Fn := fun x => (cm x).map φ
/-- Under way: the edges at m, the marks at m2. -/
structure Bs (w wr : World) (m m2 : Nat) (f : Fn) (U : List Int) (φ : Nat → Int) (cm : Cm) : Prop where
  bel : Below w.heap.size w wr
  goal : ∃ c, MapAt wr m f c
  came : ∃ cc, MapAt wr m2 (mkf φ cm) cc ∧ cc + free U cm ≤ U.length
  ne : m ≠ m2
  mge : w.heap.size ≤ m2
section
variable {w wr : World} {m m2 : Nat} {f : Fn} {U : List Int} {φ : Nat → Int} {cm : Cm}
theorem Bs.below {w2 : World} (h : Bs w wr m m2 f U φ cm) (hb : Below wr.heap.size wr w2) : Bs w w2 m m2 f U φ cm := by
  obtain ⟨c, h1⟩ := h.goal
  obtain ⟨d, h2, h3⟩ := h.came
  exact ⟨h.bel.trans (hb.mono h.bel.size), ⟨c, h1.below hb⟩, ⟨d, h2.below hb, h3⟩, h.ne, h.mge⟩
theorem Bs.lookTo (h : Bs w wr m m2 f U φ cm) {p : Int} (hp : Fit64 p) : (Instr.lookup 29 (.map (some m)) (.int .i64 p) true).run Try.prog wr = .ok (.tuple #[.int .i64 ((f p).getD 0), .bool (f p).isSome]) wr := by
  obtain ⟨c, h1⟩ := h.goal
  exact h1.look hp
theorem Bs.look (h : Bs w wr m m2 f U φ cm) {p : Int} (hp : Fit64 p) : (Instr.lookup 29 (.map (some m2)) (.int .i64 p) true).run Try.prog wr = .ok (.tuple #[.int .i64 ((mkf φ cm p).getD 0), .bool (mkf φ cm p).isSome]) wr := by
  obtain ⟨d, h2, h3⟩ := h.came
  exact h2.look hp
theorem Bs.look1 (h : Bs w wr m m2 f U φ cm) {p : Int} (hp : Fit64 p) : (Instr.lookup 29 (.map (some m2)) (.int .i64 p) false).run Try.prog wr = .ok (.int .i64 ((mkf φ cm p).getD 0)) wr := by
  obtain ⟨d, h2, h3⟩ := h.came
  exact h2.look1 hp
theorem Bs.mark (h : Bs w wr m m2 f U φ cm) {p : Int} {i : Nat} (hp : cm p = none) (hU : p ∈ U) (hl : U.length ≤ 6000000) (hf : Fit64 p) (hi : Fit64 (φ i)) :
    ∃ w2, (Instr.mapUpdate 29 (.map (some m2)) (.int .i64 p) (.int .i64 (φ i))).run Try.prog wr = .ok () w2 ∧ Bs w w2 m m2 f U φ (setN cm p i) ∧ Mod (fun k => k = m2) wr w2 := by
  obtain ⟨c, h1⟩ := h.goal
  obtain ⟨d, h2, h3⟩ := h.came
  obtain ⟨w2, r1, r2, r3⟩ := h2.store (p := p) (v := φ i) hf hi (by omega)
  have hn : (mkf φ cm p).isSome = false := by unfold mkf; rw [hp]; rfl
  have hlt := free_lt (i := i) hU hp
  rw [hn] at r3
  simp only [Bool.false_eq_true, if_false] at r3
  refine ⟨w2, r1, ⟨h.bel.trans (r2.below h.bel.size (fun k _ e => by rw [e]; exact h.mge)), ⟨c, h1.mod r2 h.ne⟩, ⟨d + 1, r3.congr (fun x => ?_), by omega⟩, h.ne, h.mge⟩, r2⟩
  unfold mkf setN
  by_cases e : x = p
  · rw [if_pos e, if_pos e]; rfl
  · rw [if_neg e, if_neg e]
end
/-- What is left to do behind a way. -/
def After (f : Fn) (R : List Int) (i : Nat) (o : Option Int) : Option Int → Cm → Prop
  | some z, _ => o = some z
  | none, cm => Ways f R (i + 1) cm o
theorem ways_open {f : Fn} {x : Int} {R : List Int} {i : Nat} {cm : Cm} {o : Option Int} (h : Ways f (x :: R) i cm o) : ∃ k cm' r, Way f i k cm x cm' r ∧ After f R i o r cm' := by
  rcases h with ⟨n, c, z, a, b⟩ | ⟨n, c, a, b⟩
  · exact ⟨_, _, _, a, b⟩
  · exact ⟨_, _, _, a, b⟩
/-- Within way i: at p, and it goes on, or not. -/
def Wy (f : Fn) (U R : List Int) (i : Nat) (o : Option Int) (cm : Cm) (p : Int) (goes : Bool) (k : Nat) : Prop :=
  (∀ x g, cm x = some g → g ≤ i) ∧ ((goes = true ∧ p ∈ U ∧ ∃ kk cm' r, k = kk + 1 ∧ Way f i kk cm p cm' r ∧ After f R i o r cm') ∨ (goes = false ∧ k = 0 ∧ Ways f R (i + 1) cm o))
theorem wy_start {f : Fn} {U R : List Int} {x : Int} {i : Nat} {cm : Cm} {o : Option Int} (h : Ways f (x :: R) i cm o) (hm : ∀ x g, cm x = some g → g < i) (hx : x ∈ U) : ∃ k, Wy f U R i o cm x true k := by
  obtain ⟨k, cm', r, a, b⟩ := ways_open h
  exact ⟨k + 1, fun x g hg => Nat.le_of_lt (hm x g hg), .inl ⟨rfl, hx, k, cm', r, rfl, a, b⟩⟩
section
variable {f : Fn} {U R : List Int} {i : Nat} {cm : Cm} {o : Option Int} {p : Int} {k : Nat}
theorem marks_set (hm : ∀ x g, cm x = some g → g ≤ i) : ∀ x g, setN cm p i x = some g → g ≤ i := fun x g hg => by
  unfold setN at hg
  split at hg
  · cases hg; exact Nat.le_refl _
  · exact hm x g hg
theorem Wy.stop (h : Wy f U R i o cm p false k) : k = 0 ∧ Ways f R (i + 1) cm o ∧ ∀ x g, cm x = some g → g < i + 1 := by
  obtain ⟨h1, ⟨h2, _⟩ | ⟨_, h2, h3⟩⟩ := h
  · cases h2
  · exact ⟨h2, h3, fun x g hg => Nat.lt_succ_of_le (h1 x g hg)⟩
theorem Wy.pos (h : Wy f U R i o cm p true k) : 0 < k ∧ p ∈ U := by
  obtain ⟨h1, ⟨_, hp, kk, cm', r, rfl, hw, ha⟩ | ⟨h2, _⟩⟩ := h
  · exact ⟨Nat.succ_pos _, hp⟩
  · cases h2
theorem Wy.sink (h : Wy f U R i o cm p true k) (hc : cm p = none) (hn : f p = none) (q : Int) : Wy f U R i o (setN cm p i) q false 0 := by
  obtain ⟨h1, ⟨_, hp, kk, cm', r, rfl, hw, ha⟩ | ⟨h2, _⟩⟩ := h
  · obtain ⟨_, rfl, rfl⟩ := hw.of_sink hc hn
    exact ⟨marks_set h1, .inr ⟨rfl, rfl, ha⟩⟩
  · cases h2
theorem Wy.go (hU : ∀ x q, f x = some q → q ∈ U) (h : Wy f U R i o cm p true k) (hc : cm p = none) {q : Int} (hn : f p = some q) : Wy f U R i o (setN cm p i) q true (k - 1) := by
  obtain ⟨h1, ⟨_, hp, kk, cm', r, rfl, hw, ha⟩ | ⟨h2, _⟩⟩ := h
  · obtain ⟨j, rfl, c⟩ := hw.of_go hc hn
    exact ⟨marks_set h1, .inl ⟨rfl, hU _ _ hn, _, _, _, rfl, c, ha⟩⟩
  · cases h2
theorem Wy.ring (h : Wy f U R i o cm p true k) (hc : cm p = some i) : o = some p := by
  obtain ⟨h1, ⟨_, hp, kk, cm', r, rfl, hw, ha⟩ | ⟨h2, _⟩⟩ := h
  · obtain ⟨_, rfl, ⟨_, rfl⟩ | ⟨e, _⟩⟩ := hw.of_some hc
    · exact ha
    · exact absurd rfl e
  · cases h2
theorem Wy.met (h : Wy f U R i o cm p true k) {g : Nat} (hc : cm p = some g) (hg : g ≠ i) : Ways f R (i + 1) cm o ∧ ∀ x g, cm x = some g → g < i + 1 := by
  obtain ⟨h1, ⟨_, hp, kk, cm', r, rfl, hw, ha⟩ | ⟨h2, _⟩⟩ := h
  · obtain ⟨_, rfl, ⟨e, _⟩ | ⟨_, rfl⟩⟩ := hw.of_some hc
    · exact absurd e hg
    · exact ⟨ha, fun x g hg => Nat.lt_succ_of_le (h1 x g hg)⟩
  · cases h2
end
theorem keys_inj {K : List Int} (h : K.Pairwise (· < ·)) {i g : Nat} (hi : i < K.length) (hg : g ≤ i) (hne : g ≠ i) : K.getD g 0 ≠ K.getD i 0 := by
  rw [List.pairwise_iff_getElem] at h
  have := h g i (by omega) hi (by omega)
  rw [List.getD_eq_getElem?_getD, List.getD_eq_getElem?_getD, List.getElem?_eq_getElem hi, List.getElem?_eq_getElem (by omega : g < K.length)]
  show K[g] ≠ K[i]
  omega
theorem k_mem {K : List Int} {i : Nat} (hi : i < K.length) : K.getD i 0 ∈ K := by
  rw [List.getD_eq_getElem?_getD, List.getElem?_eq_getElem hi]
  exact List.getElem_mem hi
theorem k_drop {K : List Int} {i : Nat} (hi : i < K.length) : K.drop i = K.getD i 0 :: K.drop (i + 1) := by
  rw [List.drop_eq_getElem_cons hi, List.getD_eq_getElem?_getD, List.getElem?_eq_getElem hi]; rfl
/-- The ring of edges, and what of it comes out. -/
def RingOut (w : World) (e : Es) (x : Ending) (w' : World) : Prop := ∃ l, RingIs (nxs e) l ∧ NewL w l x w'
theorem RingOut.no {w w' : World} {e : Es} {K : List Int} (hK : Keys (nxs e) K) (hw : Ways (nxs e) K 0 (fun _ => none) none) (hb : Below w.heap.size w w') : RingOut w e (.returned (.slice none 0 0)) w' :=
  ⟨[], ⟨K, _, hK, hw, rfl⟩, none, 0, rfl, Own.nil hb⟩
theorem RingOut.yes {w w1 w' : World} {e : Es} {K : List Int} {z : Int} (hK : Keys (nxs e) K) (hw : Ways (nxs e) K 0 (fun _ => none) (some z)) (hb : Below w.heap.size w w1) {x : Ending} (ht : ToldOut w1 (nxs e) z x w') : RingOut w e x w' := by
  obtain ⟨l, h1, a, c, rfl, h2⟩ := ht
  exact ⟨l, ⟨K, _, hK, hw, h1⟩, a, c, rfl, hb.trans (h2.bel.mono hb.size), h2.row, fun k hk => Nat.le_trans hb.size (h2.new k hk)⟩
end Go.Proofs.Ytcmcapddijpidaa
