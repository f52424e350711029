/- Scripts: which may be, and as bytes, over whole numbers. -/
import Derived.Test.YtnkanaccacephaaSM2
namespace Go.Proofs.Ytnkanaccacephaa
open Go.RowKit

/-- A step: its kind, its two numbers. -/
structure Stp where
  k : Int
  n : Int
  v : Int
instance : Inhabited Stp := ⟨⟨0, 0, 0⟩⟩

/-- What is wrong with a step. -/
def faultS (s : Stp) : Int := if s.k < 1 ∨ 3 < s.k then 1 else if s.n < 0 ∨ 4294967295 < s.n then 2 else if s.v ≠ 0 ∧ s.k ≠ 2 then 11 else 0
/-- Of the first step that is wrong: what, and its place. -/
def mayFrom : List Stp → Int → Int × Int
  | [], _ => (0, 0)
  | x :: r, i => if faultS x ≠ 0 then (faultS x, i) else mayFrom r (i + 1)
def mayS (l : List Stp) : Int × Int := if 1024 < l.length then (3, 1024) else mayFrom l 0

def hdB : List Nat := [70, 66, 83, 67, 1]
def tailB (s : Stp) : List Nat := if s.k = 2 then numB 8 (u64 s.v) else []
def stB (s : Stp) : List Nat := numB 1 (u64 s.k) ++ (numB 4 (u64 s.n) ++ tailB s)
def encS (l : List Stp) : List Nat := hdB ++ (numB 2 l.length ++ l.flatMap stB)

def kindE (n : Nat) : Int := if (n : Int) < 1 then 1 else if 3 < (n : Int) then 1 else 0
def manyE (n : Nat) : Int := if (n : Int) < 0 then 3 else if 1024 < (n : Int) then 3 else 0
def okE (_ : Nat) : Int := 0
def hdF (acc : List Nat) (n : Nat) : Int := if n = hdB.getD acc.length 0 then 0 else 4
/-- A step's last number, if there is one. -/
def vP (k n : Nat) : Par Stp := if k = 2 then bind_ (numP 8 okE) fun v => pure_ ⟨k, n, wrap64 v⟩ else pure_ ⟨k, n, 0⟩
def stepP : Par Stp := bind_ (numP 1 kindE) fun k => bind_ (numP 4 okE) fun n => vP k n
def headP : Par (List Nat) := repP (fun acc => numP 1 (hdF acc)) 5 []
def stepsP (m : Nat) (acc : List Stp) : Par (List Stp) := repP (fun _ => stepP) m acc
def bodyP : Par (List Stp) := bind_ (numP 2 manyE) fun m => stepsP m []
/-- Behind the last step nothing may be left. -/
def fin : List Stp → Par (List Stp) := fun c bs p => if p < bs.length then .er 6 p else .ok c p
def wholeS (bs : List Nat) : Res (List Stp) := bind_ headP (fun _ => bind_ bodyP fin) bs 0
def decS (bs : List Nat) : Res (List Stp) := if 1048576 < bs.length then .er 22 1048576 else wholeS bs
/-- What Decode tells. -/
def decF (bs : List Nat) : List Stp × Int × Int := match decS bs with
  | .ok c _ => (c, 0, 0)
  | .er e a => ([], e, a)

/-- Its last number fits. -/
def FitS (s : Stp) : Prop := -9223372036854775808 ≤ s.v ∧ s.v ≤ 9223372036854775807

def V3 (k n : Nat) (s : Stp) : Prop := s.k = k ∧ s.n = n ∧ (if k = 2 then FitS s else s.v = 0)
theorem sp3 (k n : Nat) : Sp (vP k n) tailB (V3 k n) := by
  unfold vP
  by_cases hk : k = 2
  · rw [if_pos hk]
    have hb := Sp.bind (Sp.num 8 okE) (f := fun v => pure_ (⟨k, n, wrap64 v⟩ : Stp)) (e2 := fun _ _ => []) (V2 := fun v b => v < 18446744073709551616 ∧ b = ⟨k, n, wrap64 v⟩)
      (fun v hv => (Sp.pure (⟨k, n, wrap64 v⟩ : Stp)).as (fun b => ⟨fun h => h.2, fun h => ⟨hv.2, h⟩⟩) (fun _ _ => rfl)) (fun _ => pure_place) num_le (fun b => u64 b.v)
      (fun v b h => by rw [h.2]; exact u64_wrap64 h.1)
    refine hb.as (fun s => ?_) (fun s h => ?_)
    · unfold V3
      rw [if_pos hk]
      constructor
      · rintro ⟨h1, h2, h3⟩
        refine ⟨⟨rfl, u64_lt _⟩, u64_lt _, ?_⟩
        rw [wrap64_u64 h3.1 h3.2]
        cases s
        simp only at h1 h2
        subst h1 h2
        rfl
      · rintro ⟨_, h4, h5⟩
        rw [h5]
        refine ⟨rfl, rfl, ?_⟩
        unfold FitS wrap64
        simp only
        omega
    · have h5 := h.2.2
      have h6 : s.k = 2 := by rw [h5, hk]; rfl
      unfold tailB
      rw [if_pos h6, List.append_nil]
  · rw [if_neg hk]
    refine (Sp.pure (⟨k, n, 0⟩ : Stp)).as (fun s => ?_) (fun s h => ?_)
    · unfold V3
      rw [if_neg hk]
      constructor
      · rintro ⟨h1, h2, h3⟩
        cases s
        simp only at h1 h2 h3
        subst h1 h2 h3
        rfl
      · intro h
        rw [h]
        exact ⟨rfl, rfl, rfl⟩
    · unfold tailB
      rw [if_neg (by rw [h]; simp only; omega)]

theorem v_place (k n : Nat) : ∀ (bs : List Nat) (q : Nat) (x y : Int), q ≤ bs.length → vP k n bs q = .er x y → x ≠ 0 ∧ 0 ≤ y ∧ y ≤ bs.length := (sp3 k n).place
theorem v_le (k n : Nat) : ∀ (bs : List Nat) (q : Nat) (a : Stp) (q' : Nat), q ≤ bs.length → vP k n bs q = .ok a q' → q' ≤ bs.length := by
  unfold vP
  split
  · exact bind_le num_le (fun _ => pure_le)
  · exact pure_le

def V2 (k : Nat) (s : Stp) : Prop := (okE s.n.toNat = 0 ∧ s.n.toNat < 2 ^ (8 * 4)) ∧ V3 k s.n.toNat s
theorem sp2 (k : Nat) : Sp (bind_ (numP 4 okE) fun n => vP k n) (fun s => numB 4 s.n.toNat ++ tailB s) (V2 k) :=
  Sp.bind (Sp.num 4 okE) (e2 := fun _ => tailB) (V2 := fun n => V3 k n) (fun n _ => sp3 k n) (fun n => v_place k n) num_le (fun s => s.n.toNat) (fun n s h => by rw [h.2.1]; simp)
def V1 (s : Stp) : Prop := (kindE s.k.toNat = 0 ∧ s.k.toNat < 2 ^ (8 * 1)) ∧ V2 s.k.toNat s
theorem sp1 : Sp stepP (fun s => numB 1 s.k.toNat ++ (numB 4 s.n.toNat ++ tailB s)) V1 :=
  Sp.bind (Sp.num 1 kindE) (e2 := fun _ s => numB 4 s.n.toNat ++ tailB s) (V2 := fun k => V2 k) (fun k _ => sp2 k) (fun k => (sp2 k).place) num_le (fun s => s.k.toNat) (fun k s h => by rw [h.2.1]; simp)

theorem u64_nat (n : Nat) (hn : n < 18446744073709551616) : u64 (n : Int) = n := by
  unfold u64
  omega

theorem v1_iff (s : Stp) : V1 s ↔ faultS s = 0 ∧ FitS s := by
  unfold V1 V2 V3 kindE okE faultS
  constructor
  · rintro ⟨⟨h1, h2⟩, ⟨_, h4⟩, h5, h6, h7⟩
    have h4' : s.n.toNat < 4294967296 := h4
    split at h1
    · simp at h1
    · split at h1
      · simp at h1
      · rw [if_neg (by omega), if_neg (by omega)]
        split at h7
        · exact ⟨by rw [if_neg (by omega)], h7⟩
        · exact ⟨by rw [if_neg (by omega)], by unfold FitS; omega⟩
  · rintro ⟨h1, h2⟩
    split at h1
    · simp at h1
    · split at h1
      · simp at h1
      · split at h1
        · simp at h1
        · refine ⟨⟨?_, ?_⟩, ⟨rfl, ?_⟩, by omega, by omega, ?_⟩
          · rw [if_neg (by omega), if_neg (by omega)]
          · show s.k.toNat < 256
            omega
          · show s.n.toNat < 4294967296
            omega
          · split
            · exact h2
            · omega
theorem st_enc {s : Stp} (h : V1 s) : stB s = numB 1 s.k.toNat ++ (numB 4 s.n.toNat ++ tailB s) := by
  obtain ⟨⟨h1, h2⟩, ⟨_, h4⟩, h5, h6, h7⟩ := h
  have h2' : s.k.toNat < 256 := h2
  have h4' : s.n.toNat < 4294967296 := h4
  unfold stB
  have e1 : u64 s.k = s.k.toNat := by unfold u64; omega
  have e2 : u64 s.n = s.n.toNat := by unfold u64; omega
  rw [e1, e2]
theorem sp_step : Sp stepP stB (fun s => faultS s = 0 ∧ FitS s) := sp1.as (fun s => (v1_iff s).symm) (fun _ h => st_enc h)
theorem step_le : ∀ (bs : List Nat) (q : Nat) (a : Stp) (q' : Nat), q ≤ bs.length → stepP bs q = .ok a q' → q' ≤ bs.length :=
  bind_le num_le (fun k => bind_le num_le (fun n => v_le k n))

theorem may_iff : ∀ (l : List Stp) (i : Int), (mayFrom l i).1 = 0 ↔ ∀ s ∈ l, faultS s = 0
  | [], _ => by simp [mayFrom]
  | x :: r, i => by
    unfold mayFrom
    by_cases h : faultS x = 0
    · rw [if_neg (by simp [h]), may_iff r (i + 1)]
      simp [h]
    · rw [if_pos h]
      simp [h]
theorem may_zero : ∀ (l : List Stp) (i : Int), (mayFrom l i).1 = 0 → mayFrom l i = (0, 0)
  | [], _, _ => rfl
  | x :: r, i, h => by
    unfold mayFrom at h ⊢
    by_cases h1 : faultS x = 0
    · rw [if_neg (by simp [h1])] at h ⊢
      exact may_zero r (i + 1) h
    · rw [if_pos h1] at h
      exact absurd h h1
theorem mayS_iff (l : List Stp) : (mayS l).1 = 0 ↔ l.length ≤ 1024 ∧ ∀ s ∈ l, faultS s = 0 := by
  unfold mayS
  by_cases h : 1024 < l.length
  · rw [if_pos h]
    simp
    omega
  · rw [if_neg h, may_iff]
    constructor
    · exact fun k => ⟨by omega, k⟩
    · exact fun k => k.2
theorem mayS_zero {l : List Stp} (h : (mayS l).1 = 0) : mayS l = (0, 0) := by
  unfold mayS at h ⊢
  by_cases h1 : 1024 < l.length
  · rw [if_pos h1] at h
    simp at h
  · rw [if_neg h1] at h ⊢
    exact may_zero l 0 h

theorem many_iff (n : Nat) : manyE n = 0 ↔ n ≤ 1024 := by
  unfold manyE
  split
  · omega
  · split
    · simp; omega
    · simp; omega

/-- Scripts, behind the head. -/
theorem sp_body : Sp bodyP (fun l => numB 2 l.length ++ l.flatMap stB) (fun l => (mayS l).1 = 0 ∧ ∀ s ∈ l, FitS s) := by
  refine (Sp.list (k := 2) (c := manyE) (f := fun _ _ => stepP) (e := stB) (V := fun _ _ s => faultS s = 0 ∧ FitS s) (fun _ _ => sp_step) (fun _ _ => step_le)).as (fun l => ?_) (fun _ _ => rfl)
  rw [mayS_iff, vl_all, many_iff]
  constructor
  · rintro ⟨⟨h1, h2⟩, h3⟩
    exact ⟨⟨h1, by omega⟩, fun s hs => ⟨h2 s hs, h3 s hs⟩⟩
  · rintro ⟨⟨h1, _⟩, h3⟩
    exact ⟨⟨h1, fun s hs => (h3 s hs).1⟩, fun s hs => (h3 s hs).2⟩

def VH (acc r : List Nat) : Prop := r = hdB.drop acc.length
theorem sp_head : Sp headP (fun r => r) (fun r => r = hdB) := by
  refine (Sp.rep (f := fun acc => numP 1 (hdF acc)) (e := numB 1) (V := fun acc n => hdF acc n = 0 ∧ n < 2 ^ (8 * 1)) (fun acc => Sp.num 1 (hdF acc)) (fun acc => num_le) 5 []).as (fun r => ?_) (fun r h => ?_)
  · constructor
    · rintro rfl
      refine ⟨hdB, rfl, rfl, ?_⟩
      simp [VL, hdF, hdB]
    · rintro ⟨l, h0, hl, h⟩
      obtain rfl : l = r := by simpa using h0.symm
      match l, hl with
      | [a, b, c, d, e], _ =>
        simp [VL, hdF, hdB] at h
        simp [hdB]
        omega
  · obtain ⟨l, h0, hl, h⟩ := h
    obtain rfl : l = r := by simpa using h0.symm
    match l, hl with
    | [a, b, c, d, e], _ =>
      simp [VL, hdF, hdB] at h
      simp [numB]
      omega

def okS (l : List Stp) : Prop := (mayS l).1 = 0 ∧ ∀ s ∈ l, FitS s
theorem sp_whole : Sp (bind_ headP fun _ => bodyP) encS okS := by
  refine (Sp.bind sp_head (f := fun _ => bodyP) (e2 := fun _ l => numB 2 l.length ++ l.flatMap stB) (V2 := fun h l => h = hdB ∧ okS l) (fun h hh => sp_body.as (fun l => ⟨fun k => k.2, fun k => ⟨hh, k⟩⟩) (fun _ _ => rfl)) (fun _ => sp_body.place)
    (rep_le (fun acc => num_le) 5 []) (fun _ => hdB) (fun a b h => h.1.symm)).as (fun l => ⟨fun h => ⟨rfl, rfl, h⟩, fun h => h.2.2⟩) (fun l _ => rfl)
theorem whole_eq (bs : List Nat) : wholeS bs = bind_ (bind_ headP fun _ => bodyP) fin bs 0 := by
  unfold wholeS
  rw [bind_assoc]

theorem tail_len (s : Stp) : (tailB s).length ≤ 8 := by
  unfold tailB
  split
  · rw [numB_len]; omega
  · simp
theorem stB_len (s : Stp) : (stB s).length ≤ 13 := by
  have := tail_len s
  unfold stB
  rw [List.length_append, List.length_append, numB_len, numB_len]
  omega
theorem enc_len {l : List Stp} (h : (mayS l).1 = 0) : (encS l).length ≤ 13319 := by
  have h1 := ((mayS_iff l).1 h).1
  have h2 := flat_len stB 13 l (fun s _ => stB_len s)
  unfold encS
  rw [List.length_append, List.length_append, numB_len]
  have : hdB.length = 5 := rfl
  have : l.length * 13 ≤ 1024 * 13 := Nat.mul_le_mul_right _ h1
  omega
theorem enc_pos (l : List Stp) : 7 ≤ (encS l).length := by
  unfold encS
  rw [List.length_append, List.length_append, numB_len]
  have : hdB.length = 5 := rfl
  omega
theorem tail_mem (s : Stp) : ∀ y ∈ tailB s, y < 256 := by
  unfold tailB
  split
  · exact numB_mem 8 _
  · intro y hy
    cases hy
theorem stB_mem (s : Stp) : ∀ y ∈ stB s, y < 256 := fun y hy => by
  unfold stB at hy
  rcases List.mem_append.1 hy with h | h
  · exact numB_mem 1 _ y h
  · rcases List.mem_append.1 h with h | h
    · exact numB_mem 4 _ y h
    · exact tail_mem s y h
theorem enc_byte (l : List Stp) : Byte (encS l) := byte_of_mem fun y hy => by
  unfold encS at hy
  rcases List.mem_append.1 hy with h | h
  · simp [hdB] at h
    omega
  · rcases List.mem_append.1 h with h | h
    · exact numB_mem 2 _ y h
    · exact flat_byte stB stB_mem l y h

theorem dec_enc {l : List Stp} (h : okS l) : decS (encS l) = .ok l (encS l).length := by
  have h1 := sp_whole.full (encS l) 0 l [] h (Nat.zero_le _) (by simp)
  have h2 := enc_len h.1
  unfold decS
  rw [if_neg (by omega), whole_eq]
  unfold bind_ at h1 ⊢
  rw [h1]
  unfold fin
  simp
theorem dec_rest {l : List Stp} (h : okS l) (y : Nat) : decS (encS l ++ [y]) = .er 6 (encS l).length := by
  have h1 := sp_whole.full (encS l ++ [y]) 0 l [y] h (Nat.zero_le _) (by simp)
  have h2 := enc_len h.1
  unfold decS
  rw [if_neg (by simp; omega), whole_eq]
  unfold bind_ at h1 ⊢
  rw [h1]
  unfold fin
  simp
theorem dec_cut {l : List Stp} (h : okS l) (k : Nat) (hk : k < (encS l).length) : decS ((encS l).take k) = .er 5 k := by
  have h1 := sp_whole.cut ((encS l).take k) 0 l k h (Nat.zero_le _) hk (by simp)
  have h2 := enc_len h.1
  have h3 : ((encS l).take k).length = k := by rw [List.length_take]; omega
  unfold decS
  rw [if_neg (by omega), whole_eq]
  unfold bind_ at h1 ⊢
  rw [h1, h3]
theorem dec_ok {bs : List Nat} {l : List Stp} {q : Nat} (hb : Byte bs) (h : decS bs = .ok l q) : okS l ∧ encS l = bs ∧ bs.length ≤ 13319 := by
  unfold decS at h
  split at h
  · cases h
  · rw [whole_eq] at h
    unfold bind_ at h
    split at h
    · next a p h1 =>
      unfold fin at h
      split at h
      · cases h
      · next hp =>
        cases h
        obtain ⟨h2, h3, h4, t, h5⟩ := sp_whole.sound bs 0 l q hb (Nat.zero_le _) h1
        have h6 := congrArg List.length h5
        rw [List.drop_zero, List.length_append] at h6
        have : t = [] := List.eq_nil_of_length_eq_zero (by omega)
        subst this
        have e : encS l = bs := by simpa using h5.symm
        refine ⟨h2, e, ?_⟩
        rw [← e]
        exact enc_len h2.1
    · cases h
theorem dec_place {bs : List Nat} {e a : Int} (h : decS bs = .er e a) : e ≠ 0 ∧ 0 ≤ a ∧ a ≤ bs.length := by
  unfold decS at h
  split at h
  · cases h
    omega
  · rw [whole_eq] at h
    unfold bind_ at h
    split at h
    · next b p h1 =>
      unfold fin at h
      split at h
      · cases h
        omega
      · cases h
    · next h1 =>
      cases h
      exact sp_whole.place bs 0 _ _ (Nat.zero_le _) h1

theorem decF_ok {bs : List Nat} {c : List Stp} {q : Nat} (h : decS bs = .ok c q) : decF bs = (c, 0, 0) := by unfold decF; rw [h]
theorem decF_er {bs : List Nat} {e a : Int} (h : decS bs = .er e a) : decF bs = ([], e, a) := by unfold decF; rw [h]
/-- What Decode tells, one of two. -/
theorem decF_cases {bs : List Nat} (hb : Byte bs) : (∃ l, decF bs = (l, 0, 0) ∧ okS l ∧ encS l = bs ∧ bs.length ≤ 13319) ∨ ∃ e a, decF bs = ([], e, a) ∧ e ≠ 0 ∧ 0 ≤ a ∧ a ≤ bs.length := by
  cases h : decS bs with
  | ok l q =>
    have := dec_ok hb h
    exact .inl ⟨l, decF_ok h, this.1, this.2.1, this.2.2⟩
  | er e a =>
    have := dec_place h
    exact .inr ⟨e, a, decF_er h, this.1, this.2.1, this.2.2⟩
end Go.Proofs.Ytnkanaccacephaa
