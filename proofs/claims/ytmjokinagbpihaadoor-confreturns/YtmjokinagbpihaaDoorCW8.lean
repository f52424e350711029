/- Bytes of an instruction. -/
import Derived.Test.YtmjokinagbpihaaDoorCW7
import Derived.OwnWalk
import Derived.Laws.AppendOwn
import Derived.Deep.AppendLies
namespace Go.Proofs.YtmjokinagbpihaaDoor
open Go.RowKit

theorem info_u8 : (Tryd.prog.info? 5).map (fun i => (i.zero, i.size, i.bytes)) = some (some (.int .u8 0), 1, 1) := by kernel_rfl
theorem info_parts {t : TypeId} {z : Value} {s b : Nat} (h : (Tryd.prog.info? t).map (fun i => (i.zero, i.size, i.bytes)) = some (some z, s, b)) : ∃ i, Tryd.prog.info? t = some i ∧ i.zero = some z ∧ i.size = s ∧ i.bytes = b := by
  cases hh : Tryd.prog.info? t with
  | none => rw [hh] at h; cases h
  | some i => rw [hh] at h; simp at h; exact ⟨i, rfl, h.1, h.2.1, h.2.2⟩

/-- Bytes as cells. -/
def bCells (l : List Nat) : List Value := l.map fun b : Nat => Value.int .u8 (b : Int)
theorem bCells_len (l : List Nat) : (bCells l).length = l.length := by simp [bCells]
theorem bCells_app (l m : List Nat) : bCells l ++ bCells m = bCells (l ++ m) := by simp [bCells]

theorem addr_add (b off j : Nat) : (⟨b, off, none⟩ : Addr).add j = ⟨b, off + j, none⟩ := by
  unfold Addr.add
  split
  · rename_i h; subst h; rfl
  · rfl

theorem cells_new {w : World} (vs : List Value) (t : TypeId) {b : Nat} (hb : w.heap.size = b) : ∀ j u, vs[j]? = some u → (w.alloc (.cells vs.toArray t)).cell? ((⟨b, 0, none⟩ : Addr).add j) = some u := by
  subst hb
  intro j u hj
  have h := heap_alloc_new w (.cells vs.toArray t)
  rw [addr_add, Nat.zero_add, cell_of_row _ _ _ vs.toArray t (0, 0) h]
  simpa using hj

theorem own_form {w : World} {B e z n : Nat} {v : Value} {xs : List Value} (h : w.ownsRow B e z v n xs) (hn : 0 < n) : ∃ g cap, v = .slice (some ⟨g, 0, none⟩) n cap := by
  rcases h.2 with ⟨rfl, hx⟩ | ⟨g, cap, cur, rfl, _⟩
  · omega
  · exact ⟨g, cap, rfl⟩
theorem own_len {w : World} {B e z n m : Nat} {v : Value} {xs : List Value} (hn : n = m) (h : w.ownsRow B e z v n xs) : w.ownsRow B e z v m xs := hn ▸ h

theorem mod_b8 (z : Int) : z % 256 = (b8 z : Int) := by unfold b8; omega
theorem mod_u64 (z : Int) : z % 18446744073709551616 = (u64 z : Int) := by unfold u64; omega

theorem wrap_u64 (z : Int) : IntKind.u64.wrap z = z % 18446744073709551616 := by
  unfold IntKind.wrap
  rw [show IntKind.u64.signed = false from rfl]
  rfl

theorem byte_val {i : Int} {U y j : Nat} (e4 : i % 18446744073709551616 = (U : Int)) (h : y = U / 2 ^ (8 * j) % 256) : IntKind.u64.wrap i / 2 ^ (8 * j) % 256 = (y : Int) := by
  rw [wrap_u64, e4, h]
  clear e4 h
  generalize 8 * j = q
  have h1 : ((2 ^ q : Nat) : Int) = (2 : Int) ^ q := by simp
  rw [← h1]
  rfl

theorem alloc_keeps {w : World} {a : Addr} {v : Value} (o : Obj) (h : w.cell? a = some v) : (w.alloc o).cell? a = some v := by
  rw [World.cell?_alloc_lt _ _ _ (World.block_lt_of_cell? w _ h)]; exact h

theorem own_empty (w : World) (e : TypeId) (s : Nat) : (w.alloc (.cells #[] e)).ownsRow w.heap.size e s (.slice (some ⟨w.heap.size, 0, none⟩) 0 0) 0 [] :=
  ⟨by simp, .inr ⟨w.heap.size, 0, #[], rfl, Nat.le_refl _, heap_alloc_new w _, by simp, by unfold maxLen; omega, by simp, by simp⟩⟩

set_option maxRecDepth 100000 in
set_option maxHeartbeats 2000000 in
theorem put_any (B n : Nat) (g cap : Nat) (bs : List Nat) (x : Ins) (w : World) (hown : w.ownsRow B 5 1 (.slice (some ⟨g, 0, none⟩) n cap) n (bCells bs)) (hB : B ≤ w.heap.size) (hn : n ≤ 1000000) :
    Calls Tryd.prog 39 #[.slice (some ⟨g, 0, none⟩) n cap, insV x] w fun e w' => ∃ g' cap', e = .returned (.slice (some ⟨g', 0, none⟩) (n + 12) cap') ∧ w'.ownsRow B 5 1 (.slice (some ⟨g', 0, none⟩) (n + 12) cap') (n + 12) (bCells (bs ++ insB x)) ∧ Below B w w' := by
  obtain ⟨i0, hi, hz0, hz1, hz2⟩ := info_parts info_u8
  have hins : Hid (insB x = [b8 x.op, b8 x.a, b8 x.b, b8 x.c] ++ (List.range 8).map (byteAt x.imm)) := hd rfl
  have e0 := mod_b8 x.op
  have e1 := mod_b8 x.a
  have e2 := mod_b8 x.b
  have e3 := mod_b8 x.c
  have e4 := mod_u64 x.imm
  have hY : Hid (∀ j, byteAt x.imm j = u64 x.imm / 2 ^ (8 * j) % 256) := hd fun j => rfl
  generalize b8 x.op = p0 at *
  generalize b8 x.a = p1 at *
  generalize b8 x.b = p2 at *
  generalize b8 x.c = p3 at *
  generalize u64 x.imm = U at *
  generalize byteAt x.imm = Y at *
  generalize insB x = X at *
  obtain ⟨o, a, b, c, i⟩ := x
  unfold insV
  simp only at *
  have hlg := hown.lt g rfl
  go_enter Tryd.func39, Tryd.ntmps39
  go_wp2_with (at_builtin; (refine wpList_append_lies _ rfl _ _ 31 rfl B 5 i0 (.int .u8 0) 1 1 Tryd.underlying31 hi hz0 hz1 hz2 rfl (by decide) (.slice (some ⟨g, 0, none⟩) n cap) _ _ rfl ((hown.alloc _).alloc _) ⟨_, 0, none⟩ 4 4 (bCells [p0, p1, p2, p3]) rfl rfl (cells_new [.int .u8 (p0 : Int), .int .u8 (p1 : Int), .int .u8 (p2 : Int), .int .u8 (p3 : Int)] _ (by simp)) (by simp [bCells, Value.oneCell']) (by decide) (by unfold maxLen; omega) (by omega) (by simp; omega) _ rfl ?_); intro g1 cap1 w1 hown1 hgrow1 hlies1 hlt1)
  have hb1 : Below B w w1 := (((Below.refl _ _).alloc hB _).alloc (by simp; omega) _).grown hgrow1 (by simp; omega) (fun j hj => (hown.lt j hj).1)
  have hx4 : w1.cell? ⟨w.heap.size, 4, none⟩ = some (.int .i64 i) := hgrow1.cell (by simp) (fun e => by
    have e' : w.heap.size = g := by simpa [Value.ownBlock] using e
    omega)
  have hne : Hid (g1 ≠ w.heap.size) := hd (by
    rcases hlies1 with h | h
    · have h' : g = g1 := by simpa [Value.ownBlock] using h
      omega
    · simp at h; omega)
  rw [bCells_app] at hown1
  clear hgrow1 hown hlies1 hlg hlt1 e0 e1 e2 e3
  go_loopw [0, 5] (fun v0 v5 wr => ∃ j g cap : Nat, v5 = .int .i64 j ∧ j ≤ 8 ∧ v0 = .slice (some ⟨g, 0, none⟩) (n + 4 + j) cap ∧ wr.ownsRow B 5 1 (.slice (some ⟨g, 0, none⟩) (n + 4 + j) cap) (n + 4 + j) (bCells (bs ++ [p0, p1, p2, p3] ++ (List.range j).map Y)) ∧ Below B w wr ∧ wr.cell? ⟨w.heap.size, 4, none⟩ = some (.int .i64 i) ∧ Hid (g ≠ w.heap.size)) (fun _ v5 _ => 8 - (intOf v5).toNat)
  case atStart => exact ⟨0, g1, cap1, rfl, by omega, rfl, by simpa using hown1, hb1, hx4, hne⟩
  case round =>
    obtain ⟨j, g, cap, rfl, hj, rfl, hown, hbw, hx, hg⟩ := hrel
    clear hown1 hb1 hx4 hne
    by_cases hlt : j < 8
    · have ev := byte_val e4 (hY.out j)
      have hR : Hid ((List.range (j + 1)).map Y = (List.range j).map Y ++ [Y j]) := hd (by rw [List.range_succ]; simp)
      generalize Y j = y at *
      have hsz := hbw.size
      have hgs := hbw.size
      have hlg := hown.lt g rfl
      have hlw := World.block_lt_of_cell? wr _ hx
      go_wp2_with (at_builtin; (refine wpList_append_lies _ rfl _ _ 31 rfl B 5 i0 (.int .u8 0) 1 1 Tryd.underlying31 hi hz0 hz1 hz2 rfl (by decide) (.slice (some ⟨g, 0, none⟩) (n + 4 + j) cap) _ _ rfl (hown.alloc _) ⟨_, 0, none⟩ 1 1 (bCells [y]) rfl rfl (cells_new [.int .u8 (y : Int)] _ (by simp)) (by simp [bCells, Value.oneCell']) (by decide) (by unfold maxLen; omega) (by omega) (by simp; omega) _ rfl ?_); intro g1 cap1 w1 hown1 hgrow1 hlies1 hlt1)
      have hb1' : Below B w w1 := (hbw.alloc (by omega) _).grown hgrow1 (by simp; omega) (fun j hj => (hown.lt j hj).1)
      have hxx : w1.cell? ⟨w.heap.size, 4, none⟩ = some (.int .i64 i) := hgrow1.cell (alloc_keeps _ hx) (fun e => by
        have e' : w.heap.size = g := by simpa [Value.ownBlock] using e
        exact hg.out e'.symm)
      have hne : Hid (g1 ≠ w.heap.size) := hd (by
        rcases hlies1 with h | h
        · have h' : g = g1 := by simpa [Value.ownBlock] using h
          rw [← h']; exact hg.out
        · simp at h hlw; omega)
      rw [bCells_app, List.append_assoc (bs ++ [p0, p1, p2, p3]), ← hR.out] at hown1
      clear hgrow1 hlies1 hlt1 hown hx hg
      go_roundw
      case rel => exact ⟨j + 1, g1, cap1, by go_num, by omega, by rw [Nat.add_assoc], hown1, hb1', hxx, hne⟩
      case measure => simp [intOf]; omega
    · have ej : j = 8 := by omega
      subst ej
      rw [List.append_assoc, ← hins.out] at hown
      go_wp2
      go_ret
      exact ⟨g, cap, rfl, hown, hbw⟩
end Go.Proofs.YtmjokinagbpihaaDoor
