/- How heap.Interface's methods are reached. -/
import Derived.Test.YtdpbkoohhnpjmaaWW3
import Derived.Shelf.Abstract
namespace Go.Proofs.Ytdpbkoohhnpjmaa
open Go.RowKit Go.Sort Go.Shelf

theorem mPush (p : Addr) (w : World) : Sem.run Try.prog (method 227 63 (.pointer (some p)) "Push") w = .ok (82, .pointer (some p)) w := by kernel_rfl
theorem mPop (p : Addr) (w : World) : Sem.run Try.prog (method 227 63 (.pointer (some p)) "Pop") w = .ok (81, .pointer (some p)) w := by kernel_rfl
theorem loadVar_ths {b i : Nat} {a : Option Addr} {n c : Nat} {w : World} (h : w.cell? ⟨b, i, none⟩ = some (.slice a n c)) : Sem.run Try.prog (loadVar 54 ⟨b, i, none⟩) w = .ok (.slice a n c) w := by
  simp [loadVar, go_sem, h]
theorem wrapNil (P : Program) (xt : TypeId) (p : Addr) (s t : String) (w : World) : Sem.run P (Builtin.ssaWrapNilChk_ #[xt] xt #[.pointer (some p), strVal s, strVal t]) w = .ok (.pointer (some p)) w := rfl
theorem mVal {f : Nat} {name : String} (hm : (Try.prog.info? 63).map (fun i => (i.methods.find? (·.name == name)).map (fun m => (m.path.toList, m.func))) = some (some ([], some (f, false)))) {b j : Nat} {a : Option Addr} {n c : Nat} {w : World} (h : w.cell? ⟨b, j, none⟩ = some (.slice a n c)) :
    Sem.run Try.prog (method 227 63 (.pointer (some ⟨b, j, none⟩)) name) w = .ok (f, .slice a n c) w := by
  have hl := loadVar_ths h
  cases hi : Try.prog.info? 63 with
  | none => rw [hi] at hm; cases hm
  | some i =>
    rw [hi] at hm
    simp only [Option.map_some, Option.some.injEq] at hm
    cases hf : i.methods.find? (·.name == name) with
    | none => rw [hf] at hm; cases hm
    | some m =>
      rw [hf] at hm
      simp only [Option.map_some, Option.some.injEq, Prod.mk.injEq] at hm
      obtain ⟨h1, h2⟩ := hm
      unfold method
      have hp : m.path = #[] := Array.toList_eq_nil_iff.1 h1
      simp [typeInfo, hi, hf, h2, hp, follow, receiverAt, Result.andThen, Place.get, wrapNil, asAddr, hl, run_underlying Try.underlying63]
theorem mLen {b j : Nat} {a : Option Addr} {n c : Nat} {w : World} (h : w.cell? ⟨b, j, none⟩ = some (.slice a n c)) : Sem.run Try.prog (method 227 63 (.pointer (some ⟨b, j, none⟩)) "Len") w = .ok (78, .slice a n c) w := mVal (by kernel_rfl) h
theorem mLess {b j : Nat} {a : Option Addr} {n c : Nat} {w : World} (h : w.cell? ⟨b, j, none⟩ = some (.slice a n c)) : Sem.run Try.prog (method 227 63 (.pointer (some ⟨b, j, none⟩)) "Less") w = .ok (79, .slice a n c) w := mVal (by kernel_rfl) h
theorem mSwap {b j : Nat} {a : Option Addr} {n c : Nat} {w : World} (h : w.cell? ⟨b, j, none⟩ = some (.slice a n c)) : Sem.run Try.prog (method 227 63 (.pointer (some ⟨b, j, none⟩)) "Swap") w = .ok (80, .slice a n c) w := mVal (by kernel_rfl) h
theorem eLen (args : Array Value) (w : World) : (callFunc 78 args).run Try.prog w = .ok (.enter 78 args) w := enters_of Try.func78 (by kernel_rfl) rfl args w
theorem eLess (args : Array Value) (w : World) : (callFunc 79 args).run Try.prog w = .ok (.enter 79 args) w := enters_of Try.func79 (by kernel_rfl) rfl args w
theorem eSwap (args : Array Value) (w : World) : (callFunc 80 args).run Try.prog w = .ok (.enter 80 args) w := enters_of Try.func80 (by kernel_rfl) rfl args w
theorem ePush (args : Array Value) (w : World) : (callFunc 82 args).run Try.prog w = .ok (.enter 82 args) w := enters_of Try.func82 (by kernel_rfl) rfl args w
theorem ePop (args : Array Value) (w : World) : (callFunc 81 args).run Try.prog w = .ok (.enter 81 args) w := enters_of Try.func81 (by kernel_rfl) rfl args w

/-- A wheel's order at the block b: its things at a. -/
structure HpAt (w : World) (b m : Nat) (a : Option Addr) (c : Nat) (O : List Th) : Prop where
  obj : w.heap[b]? = some (.cells #[.map (some m), .slice a O.length c] 56 (0, 0))
  row : Row w 60 2 a O.length c (wC O)
  ne : ∀ k, blk a = some k → k ≠ b
section
variable {w w' : World} {b m : Nat} {a : Option Addr} {c : Nat} {O : List Th}
theorem HpAt.blt (h : HpAt w b m a c O) : b < w.heap.size := (Array.getElem?_eq_some_iff.1 h.obj).1
theorem HpAt.lt (h : HpAt w b m a c O) : ∀ k, blk a = some k → k < w.heap.size := h.row.lt
theorem HpAt.c0 (h : HpAt w b m a c O) : w.cell? ⟨b, 0, none⟩ = some (.map (some m)) := by rw [cell_of_row _ _ _ _ _ _ h.obj]; rfl
theorem HpAt.c1 (h : HpAt w b m a c O) : w.cell? ⟨b, 1, none⟩ = some (.slice a O.length c) := by rw [cell_of_row _ _ _ _ _ _ h.obj]; rfl
theorem HpAt.free (h : HpAt w b m a c O) (i : Nat) : w.frozen? ⟨b, i, none⟩ = false := by simp [World.frozen?, h.obj]
theorem HpAt.mod {S : Nat → Prop} (h : HpAt w b m a c O) (hm : Mod S w w') (hb : ¬ S b) (hn : ∀ k, blk a = some k → ¬ S k) : HpAt w' b m a c O := ⟨by rw [hm.block b h.blt hb]; exact h.obj, h.row.mod hm hn, h.ne⟩
theorem HpAt.below (h : HpAt w b m a c O) (hb : Below w.heap.size w w') : HpAt w' b m a c O := h.mod (Mod.of_below (fun _ => False) hb) (fun h => h) (fun _ _ h => h)
/-- Its things written over, in their place. -/
theorem HpAt.over {O' : List Th} (h : HpAt w b m a c O) (hm : Mod (fun k => blk a = some k) w w') (hR : Row w' 60 2 a O'.length c (wC O')) (hl : O'.length = O.length) : HpAt w' b m a c O' :=
  ⟨by rw [hm.block b h.blt (fun e => h.ne b e rfl), hl]; exact h.obj, hR, h.ne⟩
/-- Its things laid anew. -/
theorem HpAt.lay {O' : List Th} {a' : Option Addr} {c' n : Nat} (h : w.heap[b]? = some (.cells #[.map (some m), .slice a O.length c] 56 (0, 0))) (hR : Row w 60 2 a' n c' (wC O')) (hl : n = O'.length) (hn : ∀ k, blk a' = some k → k ≠ b) : HpAt (w.setCell ⟨b, 1, none⟩ (.slice a' n c')) b m a' c' O' := by
  subst hl
  refine ⟨?_, hR.kept fun k hk => Below.heap_setCell _ _ _ _ (hn k hk), hn⟩
  rw [heap_setCell_self h]
  rfl
end
end Go.Proofs.Ytdpbkoohhnpjmaa
