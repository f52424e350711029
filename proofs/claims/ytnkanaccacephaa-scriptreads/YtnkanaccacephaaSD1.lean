/- The document's reader in memory. -/
import Derived.Test.YtnkanaccacephaaSW1
import Derived.Deep.LoopGhost
import Derived.Deep.RegionHeld3
import Derived.Deep.DeepCutAuto
import Derived.Deep.CutRange
import Derived.Deep.CutBlock
import Derived.Laws.MakeOwn
namespace Go.Proofs.Ytnkanaccacephaa.Doc
open Go.RowKit

def rdA (a : Option Addr) (n cap : Nat) (s : St) : Array Value := #[.slice a n cap, .int .i64 s.nx, .int .i64 s.e, .int .i64 s.at_]

/-- A reader at the block r over bytes. -/
structure RdAt (w : World) (r : Nat) (a : Option Addr) (cap : Nat) (bs : List Nat) (s : St) : Prop where
  obj : w.heap[r]? = some (.cells (rdA a bs.length cap s) 51 (0, 0))
  rd : Rd w a (bCells bs)
  ne : bs.length ≠ 0 → ∀ k, blk a = some k → k ≠ r
  byte : Byte bs
  le : bs.length ≤ 1048576
  room : bs.length ≤ cap
  nx : s.nx ≤ bs.length
  fr : s.fr ≤ bs.length

/-- But for the reader all is as it was. -/
def ROut (w : World) (r : Nat) (a : Option Addr) (cap : Nat) (bs : List Nat) (s' : St) (w' : World) : Prop := RdAt w' r a cap bs s' ∧ Mod (fun k => k = r) w w'


section
variable {w w' : World} {r : Nat} {a : Option Addr} {cap : Nat} {bs : List Nat} {s : St}
theorem RdAt.lt (h : RdAt w r a cap bs s) : r < w.heap.size := (Array.getElem?_eq_some_iff.1 h.obj).1
theorem RdAt.cell (h : RdAt w r a cap bs s) (i : Nat) : w.cell? ⟨r, i, none⟩ = (rdA a bs.length cap s)[i]? := cell_of_row _ _ _ _ _ _ h.obj
theorem RdAt.free (h : RdAt w r a cap bs s) (i : Nat) : w.frozen? ⟨r, i, none⟩ = false := by simp [World.frozen?, h.obj]
theorem RdAt.cells (h : RdAt w r a cap bs s) : w.cell? ⟨r, 0, none⟩ = some (.slice a bs.length cap) ∧ w.cell? ⟨r, 1, none⟩ = some (.int .i64 s.nx) ∧ w.cell? ⟨r, 2, none⟩ = some (.int .i64 s.e) ∧ w.cell? ⟨r, 3, none⟩ = some (.int .i64 s.at_) :=
  ⟨h.cell 0, h.cell 1, h.cell 2, h.cell 3⟩
theorem RdAt.below (h : RdAt w r a cap bs s) (hb : Below w.heap.size w w') : RdAt w' r a cap bs s :=
  ⟨by rw [hb.block r h.lt]; exact h.obj, h.rd.below hb, h.ne, h.byte, h.le, h.room, h.nx, h.fr⟩
theorem RdAt.mod {S : Nat → Prop} (h : RdAt w r a cap bs s) (hm : Mod S w w') (hr : ¬ S r) (hs : ∀ k, blk a = some k → k < w.heap.size → ¬ S k) : RdAt w' r a cap bs s :=
  ⟨by rw [hm.block r h.lt hr]; exact h.obj, h.rd.mod hs hm, h.ne, h.byte, h.le, h.room, h.nx, h.fr⟩
theorem RdAt.put (h : RdAt w r a cap bs s) (i : Nat) (v : Value) {s' : St} (he : (rdA a bs.length cap s).setIfInBounds i v = rdA a bs.length cap s') (hn : s'.nx ≤ bs.length) (hf : s'.fr ≤ bs.length) : RdAt (w.setCell ⟨r, i, none⟩ v) r a cap bs s' :=
  ⟨by rw [heap_setCell_same w r i _ _ v h.obj, he], rd_mod h.rd (fun hz k hk e => h.ne hz k hk e) ((Mod.refl (fun k => k = r) w).setCell (.inl rfl) v), h.ne, h.byte, h.le, h.room, hn, hf⟩
theorem RdAt.at (h : RdAt w r a cap bs s) (i : Nat) (hi : i < bs.length) : ∃ b o, a = some ⟨b, o, none⟩ ∧ w.cell? ⟨b, o + i, none⟩ = some (.int .u8 ((bs.getD i 0 : Nat) : Int)) :=
  h.rd i _ (by simp [bCells, List.getD_eq_getElem?_getD, List.getElem?_eq_getElem hi])
theorem ROut.refl (h : RdAt w r a cap bs s) : ROut w r a cap bs s w := ⟨h, Mod.refl _ _⟩
theorem ROut.trans {w1 w2 : World} {s1 s2 : St} (h : ROut w r a cap bs s1 w1) (k : ROut w1 r a cap bs s2 w2) : ROut w r a cap bs s2 w2 := ⟨k.1, h.2.trans k.2 (fun _ h => .inl h)⟩
theorem ROut.after {w1 w2 : World} {s1 : St} (h : ROut w r a cap bs s1 w1) (hb : Below w1.heap.size w1 w2) : ROut w r a cap bs s1 w2 := ⟨h.1.below hb, h.2.after hb⟩
end


section
variable {w : World} {r : Nat} {a : Option Addr} {cap : Nat} {bs : List Nat} {s : St}
theorem ROut.put {W : World} {s1 : St} (h : ROut w r a cap bs s1 W) (h0 : RdAt w r a cap bs s) {G : Nat} (hG : w.heap.size ≤ G) (i : Nat) (v : Value) : ROut w r a cap bs s1 (W.setCell ⟨G, i, none⟩ v) := by
  have hr := h0.lt
  have hm : Mod (fun k => k = G) W (W.setCell ⟨G, i, none⟩ v) := (Mod.refl (fun k => k = G) W).setCell (.inl rfl) v
  refine ⟨⟨?_, Rd.apart h0.rd h.1.rd hm (fun k hk => by omega) rfl, h.1.ne, h.1.byte, h.1.le, h.1.room, h.1.nx, h.1.fr⟩, h.2.setCell (.inr hG) v⟩
  rw [hm.block r h.1.lt (by omega)]
  exact h.1.obj

end
end Go.Proofs.Ytnkanaccacephaa.Doc
