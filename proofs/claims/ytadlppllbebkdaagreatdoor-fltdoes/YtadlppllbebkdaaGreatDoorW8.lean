/- Letters appended onto a row of 24 that has room. -/
import Derived.Test.YtadlppllbebkdaaGreatDoorW7
import Derived.Laws.IdiomStrings
import Derived.Laws.BytesArg
import Derived.Lib.AppendStr
import Derived.OwnWalk
namespace Go.Proofs.YtadlppllbebkdaaGreatDoor
open Go.RowKit

theorem info5 : (Tryz.prog.info? 5).map (fun i => (i.zero, i.size, i.bytes)) = some (some (.int .u8 0), 1, 1) := by kernel_rfl

theorem info_size : ∃ i0, Tryz.prog.info? 5 = some i0 ∧ i0.zero = some (.int .u8 0) ∧ i0.size = 1 ∧ i0.bytes = 1 := by
  cases hi : Tryz.prog.info? 5 with
  | none => have h := info5; rw [hi] at h; cases h
  | some i =>
    have h := info5
    rw [hi] at h
    simp only [Option.map_some, Option.some.injEq, Prod.mk.injEq] at h
    exact ⟨i, rfl, h⟩

/-- A row of 24 letters of the call's own, the first n of them these. -/
def Buf (B : Nat) (w : World) (q n : Nat) (l : List UInt8) : Prop := l.length = n ∧ w.ownsRow B 5 1 (.slice (some ⟨q, 0, none⟩) n 24) n (Lib.byteCells l)

theorem byteCells_one (l : List UInt8) : ∀ u ∈ Lib.byteCells l, u.oneCell' = true := by
  intro u hu
  simp only [Lib.byteCells, List.mem_map] at hu
  obtain ⟨b, -, rfl⟩ := hu
  rfl

theorem byteCells_append (l m : List UInt8) : Lib.byteCells (l ++ m) = Lib.byteCells l ++ Lib.byteCells m := by simp [Lib.byteCells]

theorem wp_app (w : World) {ops : Array Oper} {rest : List Oper} {o : Oper} {a : Act} {Q : Exit → Act → World → Prop}
    (hg : o.guard = none) (s x : Operand) (hop : o.op = Op.call { callee := Callee.builtin Builtin.append, args := #[s, x], argTypes := #[96, 96] })
    (B q n : Nat) (l m : List UInt8) (k c : Nat) (hs : a.eval s = .slice (some ⟨q, 0, none⟩) n 24) (hB : Buf B w q n l) (ad : Addr) (hk : m.length = k) (hx : a.eval x = .slice (some ad) k c)
    (hm : ∀ j u, (Lib.byteCells m)[j]? = some u → w.cell? (ad.add j) = some u) (hfit : n + k ≤ 24)
    (hK : ∀ w' N, Hid (N = n + k) → Buf B w' q N (l ++ m) → w.grownBy w' (some q) → wpList Tryz.prog ops Q rest (a.put o.dst (.slice (some ⟨q, 0, none⟩) N 24)) w') :
    wpList Tryz.prog ops Q (o :: rest) a w := by
  obtain ⟨i0, hi, hz0, hz1, hz2⟩ := info_size
  obtain ⟨hl, hown⟩ := hB
  have hml : (Lib.byteCells m).length = k * 1 := by simp [Lib.byteCells, hk]
  refine wpList_append_fits w hg s x 96 hop B 5 i0 1 Tryz.underlying96 hi hz1 q n 24 (Lib.byteCells l) hs hown ad k c (Lib.byteCells m) hx hml hm (byteCells_one m) hfit ?_
  intro w' ho hgw
  refine hK w' (n + k) (Lib.hid rfl) ⟨by rw [List.length_append, hl, hk], ?_⟩ hgw
  rw [byteCells_append]; exact ho

/-- One new letter, two, three. -/
theorem one_new (w : World) (x : UInt8) : ∀ j u, (Lib.byteCells [x])[j]? = some u → (w.alloc (.cells #[.int .u8 (x.toNat : Int)] 5)).cell? ((⟨w.heap.size, 0, none⟩ : Addr).add j) = some u := by
  intro j u hu
  match j with
  | 0 => simp [Lib.byteCells] at hu; subst hu; simp [go_sem]
  | j + 1 => simp [Lib.byteCells] at hu
theorem two_new (w : World) (x y : UInt8) : ∀ j u, (Lib.byteCells [x, y])[j]? = some u → (w.alloc (.cells #[.int .u8 (x.toNat : Int), .int .u8 (y.toNat : Int)] 5)).cell? ((⟨w.heap.size, 0, none⟩ : Addr).add j) = some u := by
  intro j u hu
  match j with
  | 0 => simp [Lib.byteCells] at hu; subst hu; simp [go_sem]
  | 1 => simp [Lib.byteCells] at hu; subst hu; simp [go_sem]
  | j + 2 => simp [Lib.byteCells] at hu
theorem three_new (w : World) (x y z : UInt8) : ∀ j u, (Lib.byteCells [x, y, z])[j]? = some u → (w.alloc (.cells #[.int .u8 (x.toNat : Int), .int .u8 (y.toNat : Int), .int .u8 (z.toNat : Int)] 5)).cell? ((⟨w.heap.size, 0, none⟩ : Addr).add j) = some u := by
  intro j u hu
  match j with
  | 0 => simp [Lib.byteCells] at hu; subst hu; simp [go_sem]
  | 1 => simp [Lib.byteCells] at hu; subst hu; simp [go_sem]
  | 2 => simp [Lib.byteCells] at hu; subst hu; simp [go_sem]
  | j + 3 => simp [Lib.byteCells] at hu

theorem Buf.alloc {B : Nat} {w : World} {q n : Nat} {l : List UInt8} (h : Buf B w q n l) (o : Obj) : Buf B (w.alloc o) q n l := ⟨h.1, h.2.alloc o⟩
theorem Buf.base {B : Nat} {w : World} {q n : Nat} {l : List UInt8} (h : Buf B w q n l) : B ≤ q ∧ q < w.heap.size := h.2.lt q rfl
theorem Buf.made (w : World) : Buf w.heap.size (w.alloc (.cells (Array.replicate 24 (.int .u8 0)) 5)) w.heap.size 0 [] :=
  ⟨rfl, by simp [Lib.byteCells], .inr ⟨w.heap.size, 24, Array.replicate 24 (.int .u8 0), rfl, Nat.le_refl _, heap_alloc_new w _, by omega, by unfold maxLen; omega, by simp, by simp [Lib.byteCells]⟩⟩
end Go.Proofs.YtadlppllbebkdaaGreatDoor
