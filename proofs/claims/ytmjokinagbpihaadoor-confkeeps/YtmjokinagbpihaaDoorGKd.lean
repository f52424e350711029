/- The document's reader in memory, by the words of the program's. -/
import Derived.Test.YtmjokinagbpihaaDoorGCd
import Derived.Test.YtmjokinagbpihaaDoorQC2
namespace Go.Proofs.YtmjokinagbpihaaDoor.Doc
open Go.RowKit

def rdA (a : Option Addr) (n cap : Nat) (s : St) : Array Value := #[.slice a n cap, .int .i64 s.nx, .int .i64 s.e, .int .i64 s.at_]

/-- A reader at the block r over bytes. -/
structure RdAt (w : World) (r : Nat) (a : Option Addr) (cap : Nat) (bs : List Nat) (s : St) : Prop where
  obj : w.heap[r]? = some (.cells (rdA a bs.length cap s) 81 (0, 0))
  rd : Rd w a (bCells bs)
  ne : bs.length ≠ 0 → ∀ k, blk a = some k → k ≠ r
  byte : Byte bs
  le : bs.length ≤ 1048576
  room : bs.length ≤ cap
  nx : s.nx ≤ bs.length
  fr : s.fr ≤ bs.length

/-- But for the reader all is as it was. -/
def ROut (w : World) (r : Nat) (a : Option Addr) (cap : Nat) (bs : List Nat) (s' : St) (w' : World) : Prop := RdAt w' r a cap bs s' ∧ Mod (fun k => k = r) w w'


section
variable {w w' : World} {r : Nat} {a : Option Addr} {cap : Nat} {bs : List Nat} {s : St}
theorem RdAt.lt (h : RdAt w r a cap bs s) : r < w.heap.size := (Array.getElem?_eq_some_iff.1 h.obj).1
theorem RdAt.cell (h : RdAt w r a cap bs s) (i : Nat) : w.cell? ⟨r, i, none⟩ = (rdA a bs.length cap s)[i]? := cell_of_row _ _ _ _ _ _ h.obj
theorem RdAt.free (h : RdAt w r a cap bs s) (i : Nat) : w.frozen? ⟨r, i, none⟩ = false := by simp [World.frozen?, h.obj]
theorem RdAt.cells (h : RdAt w r a cap bs s) : w.cell? ⟨r, 0, none⟩ = some (.slice a bs.length cap) ∧ w.cell? ⟨r, 1, none⟩ = some (.int .i64 s.nx) ∧ w.cell? ⟨r, 2, none⟩ = some (.int .i64 s.e) ∧ w.cell? ⟨r, 3, none⟩ = some (.int .i64 s.at_) :=
  ⟨h.cell 0, h.cell 1, h.cell 2, h.cell 3⟩
theorem RdAt.below (h : RdAt w r a cap bs s) (hb : Below w.heap.size w w') : RdAt w' r a cap bs s :=
  ⟨by rw [hb.block r h.lt]; exact h.obj, h.rd.below hb, h.ne, h.byte, h.le, h.room, h.nx, h.fr⟩
theorem RdAt.mod {S : Nat → Prop} (h : RdAt w r a cap bs s) (hm : Mod S w w') (hr : ¬ S r) (hs : ∀ k, blk a = some k → k < w.heap.size → ¬ S k) : RdAt w' r a cap bs s :=
  ⟨by rw [hm.block r h.lt hr]; exact h.obj, h.rd.mod hs hm, h.ne, h.byte, h.le, h.room, h.nx, h.fr⟩
theorem RdAt.put (h : RdAt w r a cap bs s) (i : Nat) (v : Value) {s' : St} (he : (rdA a bs.length cap s).setIfInBounds i v = rdA a bs.length cap s') (hn : s'.nx ≤ bs.length) (hf : s'.fr ≤ bs.length) : RdAt (w.setCell ⟨r, i, none⟩ v) r a cap bs s' :=
  ⟨by rw [heap_setCell_same w r i _ _ v h.obj, he], rd_mod h.rd (fun hz k hk e => h.ne hz k hk e) ((Mod.refl (fun k => k = r) w).setCell (.inl rfl) v), h.ne, h.byte, h.le, h.room, hn, hf⟩
theorem RdAt.at (h : RdAt w r a cap bs s) (i : Nat) (hi : i < bs.length) : ∃ b o, a = some ⟨b, o, none⟩ ∧ w.cell? ⟨b, o + i, none⟩ = some (.int .u8 ((bs.getD i 0 : Nat) : Int)) :=
  h.rd i _ (by simp [bCells, List.getD_eq_getElem?_getD, List.getElem?_eq_getElem hi])
theorem ROut.refl (h : RdAt w r a cap bs s) : ROut w r a cap bs s w := ⟨h, Mod.refl _ _⟩
theorem ROut.trans {w1 w2 : World} {s1 s2 : St} (h : ROut w r a cap bs s1 w1) (k : ROut w1 r a cap bs s2 w2) : ROut w r a cap bs s2 w2 := ⟨k.1, h.2.trans k.2 (fun _ h => .inl h)⟩
theorem ROut.after {w1 w2 : World} {s1 : St} (h : ROut w r a cap bs s1 w1) (hb : Below w1.heap.size w1 w2) : ROut w r a cap bs s1 w2 := ⟨h.1.below hb, h.2.after hb⟩
end


/-- A row of the call's own that is being made beside the reader. -/
structure MkI (w : World) (r : Nat) (a : Option Addr) (cap : Nat) (bs : List Nat) (s : St) (wr : World) (e size : Nat) (a1 : Option Addr) (n c1 : Nat) (xs : List Value) : Prop where
  out : ROut w r a cap bs s wr
  row : Row wr e size a1 n c1 xs
  new : ∀ k, blk a1 = some k → w.heap.size ≤ k

section
variable {w wr w1 : World} {r : Nat} {a : Option Addr} {cap : Nat} {bs : List Nat} {s s' : St} {e size n c1 : Nat} {a1 : Option Addr} {xs : List Value}
theorem RdAt.alt (h : RdAt w r a cap bs s) : ∀ k, blk a = some k → k < w.heap.size ∨ bs.length = 0 := fun k hk => by
  by_cases hb : bs.length = 0
  · exact .inr hb
  · obtain ⟨b, o, rfl, hc⟩ := h.at 0 (by omega)
    cases hk
    exact .inl (World.block_lt_of_cell? w _ hc)
theorem MkI.step (h : MkI w r a cap bs s wr e size a1 n c1 xs) (hr : r < w.heap.size) (o : ROut wr r a cap bs s' w1) : MkI w r a cap bs s' w1 e size a1 n c1 xs :=
  ⟨h.out.trans o, h.row.mod o.2 (fun k hk e => by have := h.new k hk; omega), h.new⟩
theorem MkI.after (h : MkI w r a cap bs s wr e size a1 n c1 xs) (hb : Below wr.heap.size wr w1) : MkI w r a cap bs s w1 e size a1 n c1 xs :=
  ⟨h.out.after hb, h.row.below hb, h.new⟩
theorem MkI.push {T : TypeId} {z : Value} {bytes : Nat} (h : MkI w r a cap bs s wr e size a1 n c1 xs) (h0 : RdAt w r a cap bs s') (hu : Tryd.prog.underlying T = some (.slice e)) (hinfo : (Tryd.prog.info? e).map (fun i => (i.zero, i.size, i.bytes)) = some (some z, size, bytes)) (hzs : z.cells.size = size) (hb64 : bytes ≤ 64)
    (hn : n ≤ 1000000000000) (us : List Value) (hus : us.length = size) (h1 : ∀ u ∈ us, u.oneCell' = true) :
    ∃ a' c' w', (∀ ty, (Builtin.append_ #[T, T] ty #[.slice a1 n c1, .slice (some ⟨wr.heap.size, 0, none⟩) 1 1]).run Tryd.prog (wr.alloc (.cells us.toArray e)) = .ok (.slice a' (n + 1) c') w') ∧ MkI w r a cap bs s w' e size a' (n + 1) c' (xs ++ us) := by
  obtain ⟨a', c', w', k1, k2, k3, k4⟩ := push_any hu hinfo hzs hb64 h.row hn us hus h1
  have hr := h0.lt
  refine ⟨a', c', w', k1, ⟨⟨?_, h.out.2.trans k3 (fun i hi => .inr (h.new i hi))⟩, k2, fun k hk => ?_⟩⟩
  · have o := h.out.1
    refine ⟨?_, Rd.apart h0.rd o.rd k3 h.new rfl, o.ne, o.byte, o.le, o.room, o.nx, o.fr⟩
    rw [k3.block r o.lt (fun e => by have := h.new r e; omega)]
    exact o.obj
  · rcases k4 k hk with h' | h'
    · exact h.new k h'
    · have := h.out.2.size
      omega
end

section
variable {w : World} {r : Nat} {a : Option Addr} {cap : Nat} {bs : List Nat} {s : St}
theorem ROut.put {W : World} {s1 : St} (h : ROut w r a cap bs s1 W) (h0 : RdAt w r a cap bs s) {G : Nat} (hG : w.heap.size ≤ G) (i : Nat) (v : Value) : ROut w r a cap bs s1 (W.setCell ⟨G, i, none⟩ v) := by
  have hr := h0.lt
  have hm : Mod (fun k => k = G) W (W.setCell ⟨G, i, none⟩ v) := (Mod.refl (fun k => k = G) W).setCell (.inl rfl) v
  refine ⟨⟨?_, Rd.apart h0.rd h.1.rd hm (fun k hk => by omega) rfl, h.1.ne, h.1.byte, h.1.le, h.1.room, h.1.nx, h.1.fr⟩, h.2.setCell (.inr hG) v⟩
  rw [hm.block r h.1.lt (by omega)]
  exact h.1.obj

end

section
variable {w W W' : World} {r : Nat} {a : Option Addr} {cap : Nat} {bs : List Nat} {s s' s0 : St} {B : Nat} {ds : List RowD}
theorem own_step (h : Owned B W ds) (o : ROut W r a cap bs s' W') (hr : r < B) : Owned B W' ds := h.mod o.2 (fun d hd k hk e => by have := h.new d hd k hk; omega)
theorem own_add {e size n c1 : Nat} {a1 : Option Addr} {xs : List Value} (h : Owned B W ds) (hr : r < B) (hB : B ≤ W.heap.size) (m : MkI W r a cap bs s' W' e size a1 n c1 xs) : Owned B W' (⟨e, size, a1, n, c1, xs⟩ :: ds) := by
  refine (own_step h m.out hr).cons m.row (fun k hk => Nat.le_trans hB (m.new k hk)) (fun d hd k hk e => ?_)
  have h1 := m.new k hk
  have h2 := h.lt d hd k e
  omega
end


end Go.Proofs.YtmjokinagbpihaaDoor.Doc

/- The document's reader: what is wrong, the next number, a number with its limits. -/
namespace Go.Proofs.YtmjokinagbpihaaDoor.Doc
open Go.RowKit

section
variable {w : World} {r : Nat} {a : Option Addr} {cap : Nat} {bs : List Nat} {s : St}
set_option maxRecDepth 100000 in
theorem fail_any (h : RdAt w r a cap bs s) (x y : Int) (hx : x ≠ 0) :
    Calls Tryd.prog 48 #[.pointer (some ⟨r, 0, none⟩), .int .i64 x, .int .i64 y] w fun e w' => e = .returned (.tuple #[]) ∧ ROut w r a cap bs (failS s x y) w' := by
  by_cases h0 : s.e = 0
  · have HR : Hid (ROut w r a cap bs (failS s x y) ((w.setCell ⟨r, 2, none⟩ (.int .i64 x)).setCell ⟨r, 3, none⟩ (.int .i64 y))) := hd (by
      rw [failS, if_pos ⟨h0, hx⟩]
      exact ⟨(h.put 2 _ (s' := { s with e := x }) rfl h.nx h.fr).put 3 _ (s' := { s with e := x, at_ := y }) rfl h.nx h.fr, ((Mod.refl (fun k => k = r) w).setCell (.inl rfl) _).setCell (.inl rfl) _⟩)
    have k2 := h.cells.2.2.1
    have k3 := h.cells.2.2.2
    have f2 := h.free 2
    have f3 := h.free 3
    rw [h0] at k2
    clear h h0 hx
    go_enter Tryd.func48, Tryd.ntmps48
    go_wp2_with fail
    refine bodyPost_end (results_none rfl _ _ _) rfl ?_
    exact ⟨rfl, HR.out⟩
  · have HR : Hid (ROut w r a cap bs (failS s x y) w) := hd (by rw [failS, if_neg (by simp [h0])]; exact ROut.refl h)
    have k2 := h.cells.2.2.1
    have d0 : (s.e == 0) = false := by simpa using h0
    clear h h0 hx
    go_enter Tryd.func48, Tryd.ntmps48
    go_wp2_with fail
    refine bodyPost_end (results_none rfl _ _ _) rfl ?_
    exact ⟨rfl, HR.out⟩

set_option maxRecDepth 100000 in
set_option maxHeartbeats 2000000 in
theorem number_ok (h : RdAt w r a cap bs s) (k : Nat) (hk : 1 ≤ k ∧ k ≤ 8) (h0 : s.e = 0) (hl : s.nx + k ≤ bs.length) :
    Calls Tryd.prog 63 #[.pointer (some ⟨r, 0, none⟩), .int .i64 k] w fun e w' => e = .returned (.int .u64 (sumB bs s.nx k : Nat)) ∧ ROut w r a cap bs { s with fr := s.nx, nx := s.nx + k } w' := by
  obtain ⟨b, o, rfl, -⟩ := h.at s.nx (by omega)
  have HC : Hid (∀ i, i < bs.length → w.cell? ⟨b, o + i, none⟩ = some (.int .u8 ((bs.getD i 0 : Nat) : Int))) := hd (fun i hi => by
    obtain ⟨b', o', e, hc⟩ := h.at i hi
    cases e
    exact hc)
  have HB : Hid (Byte bs) := hd h.byte
  have k0 := h.cells.1
  have k1 := h.cells.2.1
  have k2 := h.cells.2.2.1
  rw [h0] at k2
  have f1 := h.free 1
  have HR : Hid (∀ W : World, Below w.heap.size w W → ROut w r (some ⟨b, o, none⟩) cap bs { s with fr := s.nx, nx := s.nx + k } (W.setCell ⟨r, 1, none⟩ (.int .i64 (s.nx + k : Nat)))) := hd fun W hW => by
    have h' := h.below hW
    exact ⟨h'.put 1 _ (s' := { s with fr := s.nx, nx := s.nx + k }) rfl hl h.nx, ((Mod.of_below (fun k => k = r) hW)).setCell (.inl rfl) _⟩
  have hle := h.le
  have hS : Hid (∀ j, sumB bs s.nx (j + 1) = sumB bs s.nx j + bs.getD (s.nx + j) 0 * 2 ^ (8 * j)) := hd fun j => rfl
  have hL : Hid (∀ j, sumB bs s.nx j < 2 ^ (8 * j)) := hd (sumB_lt bs s.nx h.byte)
  have hz : Hid (sumB bs s.nx 0 = 0) := hd rfl
  clear h h0
  obtain ⟨fr, nx, e, at_⟩ := s
  simp only at *
  obtain ⟨nk, hnk⟩ : ∃ nk : Nat, nx + k = nk := ⟨_, rfl⟩
  have enk : (nx : Int) + (k : Int) = (nk : Int) := by omega
  rw [hnk] at HR hl
  have HN := hd hnk
  clear hnk
  generalize sumB bs nx = S at *
  have d1 : decide ((bs.length : Int) - (nx : Int) < (k : Int)) = false := by simp; omega
  go_enter Tryd.func63, Tryd.ntmps63
  go_upto_region 3 with fail
  go_quiet (fail)
  go_upto_region 7 with fail
  go_wp2_with fail
  go_loopg [5, 6, 31, 32, 33, 34, 35, 36, 37, 38, 39, 40, 41, 42, 43, 44, 45, 46, 47, 48, 49, 50, 51, 52, 53] k (fun g v5 v6 v31 v32 v33 v34 v35 v36 v37 v38 v39 v40 v41 v42 v43 v44 v45 v46 v47 v48 v49 v50 v51 v52 v53 wr => ∃ j n : Nat, j + g = k ∧ v6 = .int .i64 (j : Int) ∧ v5 = .int .u64 (S j : Nat) ∧ wr = w.drewN n)
  case atStart => exact ⟨0, nq, by omega, by go_num, by rw [hz.out]; rfl, rfl⟩
  case round =>
    obtain ⟨j, n, hjk, rfl, rfl, rfl⟩ := hrel
    by_cases h0 : gk = 0
    · subst h0
      have ej : j = k := by omega
      subst ej
      clear hjk
      have k1' : (w.drewN n).cell? ⟨r, 1, none⟩ = some (.int .i64 nx) := k1
      go_wp2_with fail
      go_ret
      rw [HN.out]
      exact ⟨rfl, HR.out _ (below_draw w n)⟩
    · have hlt : j < k := by omega
      have hx := HC.out (nx + j) (by have := HN.out; omega)
      have hor := or_val (hL.out j) (HB.out (nx + j)) (by omega) (hS.out j)
      have hy := HB.out (nx + j)
      generalize bs.getD (nx + j) 0 = y at *
      obtain ⟨m, hm⟩ : ∃ m, nx + j = m := ⟨_, rfl⟩
      have em : (nx : Int) + (j : Int) = (m : Int) := by omega
      have hmn : (m : Int) < (bs.length : Int) := by have := HN.out; omega
      rw [hm] at hx
      clear hm
      obtain ⟨T, hT⟩ : ∃ T, Hid (S (j + 1) = T) := ⟨_, rfl⟩
      rw [hT.out] at hor
      go_upto_region 10 with fail
      go_quiet (fail)
      go_wp2_with fail
      go_roundg (gk - 1)
      case rel => exact ⟨j + 1, _, by omega, by go_num, by rw [hT.out], rfl⟩
      case measure => omega

set_option maxRecDepth 100000 in
theorem number_no (h : RdAt w r a cap bs s) (k : Nat) (h0 : s.e ≠ 0) :
    Calls Tryd.prog 63 #[.pointer (some ⟨r, 0, none⟩), .int .i64 k] w fun e w' => e = .returned (.int .u64 0) ∧ w' = w := by
  have k2 := h.cells.2.2.1
  have d0 : (s.e != 0) = true := by simpa using h0
  clear h h0
  go_enter Tryd.func63, Tryd.ntmps63
  go_wp2_with fail
  go_ret
  exact ⟨rfl, rfl⟩

set_option maxRecDepth 100000 in
set_option maxHeartbeats 1000000 in
theorem number_short (h : RdAt w r a cap bs s) (k : Nat) (hk : k ≤ 8) (h0 : s.e = 0) (hl : bs.length < s.nx + k) :
    Calls Tryd.prog 63 #[.pointer (some ⟨r, 0, none⟩), .int .i64 k] w fun e w' => e = .returned (.int .u64 0) ∧ ROut w r a cap bs { s with e := 5, at_ := bs.length } w' := by
  have k0 := h.cells.1
  have k1 := h.cells.2.1
  have k2 := h.cells.2.2.1
  rw [h0] at k2
  have hle := h.le
  have hnx := h.nx
  have d1 : (bs.length : Int) - (s.nx : Int) < (k : Int) := by omega
  have HF : Hid (∀ W : World, Below w.heap.size w W → Calls Tryd.prog 48 #[.pointer (some ⟨r, 0, none⟩), .int .i64 5, .int .i64 bs.length] W fun e w' => e = .returned (.tuple #[]) ∧ ROut w r a cap bs { s with e := 5, at_ := bs.length } w') := hd fun W hW =>
    (fail_any (h.below hW) 5 bs.length (by decide)).mono fun e w' ⟨he, ho⟩ => ⟨he, by
      rw [failS, if_pos ⟨h0, by decide⟩] at ho
      exact ⟨ho.1, (Mod.of_below _ hW).trans ho.2 (fun _ h => .inl h)⟩⟩
  clear h h0
  obtain ⟨fr, nx, e, at_⟩ := s
  simp only at *
  go_enter Tryd.func63, Tryd.ntmps63
  go_upto_region 3 with fail
  go_quiet (fail)
  have HF1 := HF.out (w.drewN nq) (below_draw w nq)
  have k0' : (w.drewN nq).cell? ⟨r, 0, none⟩ = some (.slice a bs.length cap) := k0
  go_wp2_with (go_at_call 48; refine HF1.mono ?_; rintro e w2 ⟨rfl, ho⟩)
  go_ret
  exact ⟨rfl, ho⟩

theorem num_any (h : RdAt w r a cap bs s) (k : Nat) (hk : 1 ≤ k ∧ k ≤ 8) :
    Calls Tryd.prog 63 #[.pointer (some ⟨r, 0, none⟩), .int .i64 k] w fun e w' => e = .returned (.int .u64 ((numS bs k s).1 : Nat)) ∧ ROut w r a cap bs (numS bs k s).2 w' := by
  unfold numS
  by_cases h0 : s.e = 0
  · rw [if_neg (by simp [h0])]
    by_cases hl : bs.length < s.nx + k
    · rw [if_pos hl]
      exact number_short h k hk.2 h0 hl
    · rw [if_neg hl]
      exact number_ok h k hk h0 (by omega)
  · rw [if_pos h0]
    exact (number_no h k h0).mono fun e w' ⟨he, hw⟩ => ⟨he, by subst hw; exact ROut.refl h⟩

/-- What is wrong with a number, below and above. -/
def intF (lo hi el eh : Int) (n : Nat) : Int := if (n : Int) < lo then el else if hi < (n : Int) then eh else 0
theorem numS_zero {k : Nat} (h : (numS bs k s).2.e ≠ 0) : (numS bs k s).1 = 0 := by
  unfold numS at *
  by_cases h0 : s.e ≠ 0
  · rw [if_pos h0]
  · rw [if_neg h0] at h ⊢
    by_cases h1 : bs.length < s.nx + k
    · rw [if_pos h1]
    · rw [if_neg h1] at h
      exact absurd (by simpa using h0) h
theorem numS_fr {k : Nat} (h : (numS bs k s).2.e = 0) : (numS bs k s).2.fr = s.nx := by
  unfold numS at *
  by_cases h0 : s.e ≠ 0
  · rw [if_pos h0] at h
    exact absurd h h0
  · rw [if_neg h0] at h ⊢
    by_cases h1 : bs.length < s.nx + k
    · rw [if_pos h1] at h
      simp at h
    · rw [if_neg h1]

set_option maxRecDepth 100000 in
set_option maxHeartbeats 1000000 in
theorem int_any (h : RdAt w r a cap bs s) (k : Nat) (hk : 1 ≤ k ∧ k ≤ 2) (lo hi el eh : Int) (hlh : lo ≤ hi + 1) (hel : el ≠ 0) (heh : eh ≠ 0) :
    Calls Tryd.prog 62 #[.pointer (some ⟨r, 0, none⟩), .int .i64 k, .int .i64 lo, .int .i64 hi, .int .i64 el, .int .i64 eh] w fun e w' => e = .returned (.int .i64 ((chkS bs k (intF lo hi el eh) s).1 : Nat)) ∧ ROut w r a cap bs (chkS bs k (intF lo hi el eh) s).2 w' := by
  have hn := num_any h k ⟨hk.1, by omega⟩
  have hl := numS_lt (s := s) h.byte k (by omega)
  have k1 := h.cells.2.1
  have hl2 : ((numS bs k s).1 : Int) < 9223372036854775808 := by omega
  unfold chkS
  simp only
  have HZ : Hid ((numS bs k s).2.e ≠ 0 → (numS bs k s).1 = 0) := hd numS_zero
  have HFR : Hid ((numS bs k s).2.e = 0 → (numS bs k s).2.fr = s.nx) := hd numS_fr
  have HE : Hid (intF lo hi el eh (numS bs k s).1 = if ((numS bs k s).1 : Int) < lo then el else if hi < ((numS bs k s).1 : Int) then eh else 0) := hd rfl
  generalize intF lo hi el eh (numS bs k s).1 = E at *
  generalize (numS bs k s).1 = v at *
  generalize (numS bs k s).2 = s1 at *
  clear h
  have ev : IntKind.i64.wrap (v : Int) = (v : Int) := by rw [IntKind.wrap_i64]; omega
  by_cases he : s1.e = 0
  · rw [HFR.out he]
    have hf : Hid (∀ W1 x, x ≠ 0 → RdAt W1 r a cap bs s1 → Calls Tryd.prog 48 #[.pointer (some ⟨r, 0, none⟩), .int .i64 x, .int .i64 s.nx] W1 fun e w' => e = .returned (.tuple #[]) ∧ ROut W1 r a cap bs (failS s1 x s.nx) w') := hd fun W1 x hx hR => fail_any hR x s.nx hx
    have HE0 := hd he
    clear HZ HFR he
    generalize s.nx = p at *
    by_cases c1 : (v : Int) < lo
    · obtain rfl : E = el := by rw [HE.out, if_pos c1]
      have c2 : decide (hi < (v : Int)) = false := by simp; omega
      have c2' : (v : Int) ≤ hi := by omega
      have hel' := hd hel
      clear HE hel heh hlh hl hk hl2
      go_enter Tryd.func62, Tryd.ntmps62
      go_upto_region 3 with (go_at_call 63; refine hn.mono ?_; rintro e w1 ⟨rfl, ho⟩)
      have k2 := ho.1.cells.2.2.1
      rw [HE0.out] at k2
      have hf1 := hf.out w1 _ hel'.out ho.1
      have HO := hd ho
      clear hn ho hf
      go_wp2_with (go_at_call 48; refine hf1.mono ?_; rintro e w2 ⟨rfl, ho2⟩)
      go_ret
      exact ⟨rfl, HO.out.trans ho2⟩
    · have d1 : decide ((v : Int) < lo) = false := by simp; omega
      have d1' : lo ≤ (v : Int) := by omega
      by_cases c2 : hi < (v : Int)
      · obtain rfl : E = eh := by rw [HE.out, if_neg c1, if_pos c2]
        have heh' := hd heh
        clear HE hel heh hlh hl hk hl2 c1
        go_enter Tryd.func62, Tryd.ntmps62
        go_upto_region 3 with (go_at_call 63; refine hn.mono ?_; rintro e w1 ⟨rfl, ho⟩)
        have k2 := ho.1.cells.2.2.1
        rw [HE0.out] at k2
        have hf1 := hf.out w1 _ heh'.out ho.1
        have HO := hd ho
        clear hn ho hf
        go_wp2_with (go_at_call 48; refine hf1.mono ?_; rintro e w2 ⟨rfl, ho2⟩)
        go_ret
        exact ⟨rfl, HO.out.trans ho2⟩
      · obtain rfl : E = 0 := by rw [HE.out, if_neg c1, if_neg c2]
        have d2 : decide (hi < (v : Int)) = false := by simp; omega
        have d2' : (v : Int) ≤ hi := by omega
        clear HE hel heh hlh hl hk hl2 c1 c2 hf
        go_enter Tryd.func62, Tryd.ntmps62
        go_upto_region 3 with (go_at_call 63; refine hn.mono ?_; rintro e w1 ⟨rfl, ho⟩)
        have k2 := ho.1.cells.2.2.1
        rw [HE0.out] at k2
        have HO := hd ho
        clear hn ho
        go_wp2_with fail
        go_ret
        rw [failS_ok]
        exact ⟨rfl, HO.out⟩
  · obtain rfl : v = 0 := HZ.out he
    have d0 : (s1.e != 0) = true := by simpa using he
    rw [failS_bad he]
    clear HZ HFR HE he hel heh hlh hl hk hl2
    go_enter Tryd.func62, Tryd.ntmps62
    go_upto_region 3 with (go_at_call 63; refine hn.mono ?_; rintro e w1 ⟨rfl, ho⟩)
    have k2 := ho.1.cells.2.2.1
    have HO := hd ho
    clear hn ho
    go_wp2_with fail
    go_ret
    exact ⟨rfl, HO.out⟩
end
end Go.Proofs.YtmjokinagbpihaaDoor.Doc

/- The document's reader: the mark. -/
namespace Go.Proofs.YtmjokinagbpihaaDoor.Doc
open Go.RowKit

theorem rep_bind {α β : Type} (f : List β → Par β) (m : Nat) (acc : List β) (g : List β → Par α) : bind_ (repP f (m + 1) acc) g = bind_ (f acc) (fun a => bind_ (repP f m (acc ++ [a])) g) := by
  rw [repP, bind_assoc]

section
variable {w : World} {r : Nat} {a : Option Addr} {cap : Nat} {bs : List Nat} {s : St}
set_option maxRecDepth 100000 in
set_option maxHeartbeats 4000000 in
theorem mark_any (h : RdAt w r a cap bs s) {α : Type} (whole : Res α) (k : List Nat → Par α) (hs : Stage whole s (bind_ (repP (fun acc => numP 1 (hdF acc)) 5 []) k bs s.nx)) :
    Calls Tryd.prog 61 #[.pointer (some ⟨r, 0, none⟩), .string ⟨#[70, 66, 67, 70, 1]⟩] w fun e w' => e = .returned (.tuple #[]) ∧ ∃ s' acc, ROut w r a cap bs s' w' ∧ Stage whole s' (k acc bs s'.nx) := by
  have HS : Hid (∃ s' acc, acc.length = 0 ∧ Stage whole s' (bind_ (repP (fun acc => numP 1 (hdF acc)) 5 acc) k bs s'.nx) ∧ ROut w r a cap bs s' w) := hd ⟨s, [], rfl, hs, ROut.refl h⟩
  clear h hs
  go_enter Tryd.func61, Tryd.ntmps61
  go_wp2_with fail
  go_loopg [4, 5, 6, 7, 8, 9, 10, 11, 12, 13, 14, 15, 16, 17, 18, 19, 20, 21, 22, 23, 24, 25, 26, 27, 28, 29, 30, 31, 32, 33, 34] 5 (fun g v4 v5 v6 v7 v8 v9 v10 v11 v12 v13 v14 v15 v16 v17 v18 v19 v20 v21 v22 v23 v24 v25 v26 v27 v28 v29 v30 v31 v32 v33 v34 wr => ∃ i : Nat, i + g = 5 ∧ v4 = .int .i64 (i : Int) ∧ Hid (∃ s' acc, acc.length = i ∧ Stage whole s' (bind_ (repP (fun acc => numP 1 (hdF acc)) g acc) k bs s'.nx) ∧ ROut w r a cap bs s' wr))
  case atStart => exact ⟨0, by omega, by go_num, HS⟩
  case round =>
    obtain ⟨i, hi, rfl, HW⟩ := hrel
    clear HS
    by_cases h0 : gk = 0
    · subst h0
      obtain rfl : i = 5 := by omega
      go_wp2_with fail
      refine bodyPost_end (results_none rfl _ _ _) rfl ?_
      obtain ⟨s', acc, -, h3, h4⟩ := HW.out
      exact ⟨rfl, s', h4, acc, h3⟩
    · obtain ⟨g, rfl⟩ : ∃ g, gk = g + 1 := ⟨gk - 1, by omega⟩
      obtain ⟨s', acc, e1, e3, e4⟩ := HW.out
      clear HW
      rw [rep_bind] at e3
      have hn := num_any e4.1 1 ⟨by omega, by omega⟩
      have k1 := e4.1.cells.2.1
      have e5 := Stage.chk e3
      have HN : Hid (∀ (W1 W2 : World), ROut wr r a cap bs (numS bs 1 s').2 W1 → ROut W1 r a cap bs (failS (numS bs 1 s').2 (hdF acc (numS bs 1 s').1) s'.nx) W2 → ∃ s'' acc', acc'.length = i + 1 ∧ Stage whole s'' (bind_ (repP (fun acc => numP 1 (hdF acc)) g acc') k bs s''.nx) ∧ ROut w r a cap bs s'' W2) := hd (by
        intro W1 W2 o1 o2
        have hsame : failS (numS bs 1 s').2 (hdF acc (numS bs 1 s').1) s'.nx = (chkS bs 1 (hdF acc) s').2 := by
          unfold chkS
          by_cases hz : (numS bs 1 s').2.e = 0
          · rw [numS_fr hz]
          · rw [failS_bad hz, failS_bad hz]
        rw [hsame] at o2
        exact ⟨_, acc ++ [(chkS bs 1 (hdF acc) s').1], by simp [e1], e5, (e4.trans o1).trans o2⟩)
      clear e5 e3
      have HE : Hid (hdF acc (numS bs 1 s').1 = if (numS bs 1 s').1 = hdB.getD i 0 then 0 else 4) := hd (by unfold hdF; rw [e1])
      have HF : Hid (∀ (W1 : World), ROut wr r a cap bs (numS bs 1 s').2 W1 → Calls Tryd.prog 48 #[.pointer (some ⟨r, 0, none⟩), .int .i64 4, .int .i64 s'.nx] W1 fun e w' => e = .returned (.tuple #[]) ∧ ROut W1 r a cap bs (failS (numS bs 1 s').2 4 s'.nx) w') := hd fun W1 o1 => fail_any o1.1 4 s'.nx (by decide)
      clear e1 e4 h0
      generalize hdF acc (numS bs 1 s').1 = E at *
      generalize (numS bs 1 s').1 = v at *
      generalize (numS bs 1 s').2 = s1 at *
      generalize s'.nx = p at *
      have hc : i = 0 ∨ i = 1 ∨ i = 2 ∨ i = 3 ∨ i = 4 := by omega
      rcases hc with rfl | rfl | rfl | rfl | rfl
      · obtain rfl : g = 4 := by omega
        by_cases he : s1.e = 0
        · replace he := hd he
          by_cases hv : v = 70
          · obtain rfl : E = 0 := by rw [HE.out, show hdB.getD 0 0 = 70 from rfl, if_pos hv]
            subst hv
            clear HE HF
            go_upto_region 5 with (go_at_call 63; refine hn.mono ?_; rintro e w1 ⟨rfl, ho⟩)
            have k2 := ho.1.cells.2.2.1
            rw [he.out] at k2
            replace ho := hd ho
            clear hn he
            go_wp2_with fail
            go_roundg 4
            all_goals first | omega | exact ⟨1, by omega, rfl, hd (HN.out w1 w1 ho.out (by rw [failS_ok]; exact ROut.refl ho.out.1))⟩
          · obtain rfl : E = 4 := by rw [HE.out, show hdB.getD 0 0 = 70 from rfl, if_neg hv]
            have hv' : ((v : Int) != IntKind.u64.wrap (((⟨#[70, 66, 67, 70, 1]⟩ : ByteArray)[0]'(by decide)).toNat : Int)) = true := by
              rw [show IntKind.u64.wrap (((⟨#[70, 66, 67, 70, 1]⟩ : ByteArray)[0]'(by decide)).toNat : Int) = 70 by decide +kernel]
              simp
              omega
            clear HE hv
            go_upto_region 5 with (go_at_call 63; refine hn.mono ?_; rintro e w1 ⟨rfl, ho⟩)
            have k2 := ho.1.cells.2.2.1
            rw [he.out] at k2
            have hf1 := HF.out w1 ho
            replace ho := hd ho
            clear hn he HF
            go_wp2_with (go_at_call 48; refine hf1.mono ?_; rintro e w2 ⟨rfl, ho2⟩)
            go_roundg 4
            all_goals first | omega | exact ⟨1, by omega, rfl, hd (HN.out w1 w2 ho.out ho2)⟩
        · have d0 : (s1.e == 0) = false := by simpa using he
          replace he := hd he
          clear HE HF
          go_upto_region 5 with (go_at_call 63; refine hn.mono ?_; rintro e w1 ⟨rfl, ho⟩)
          have k2 := ho.1.cells.2.2.1
          replace ho := hd ho
          clear hn
          go_wp2_with fail
          go_roundg 4
          all_goals first | omega | exact ⟨1, by omega, rfl, hd (HN.out w1 w1 ho.out (by rw [failS_bad he.out]; exact ROut.refl ho.out.1))⟩
      · obtain rfl : g = 3 := by omega
        by_cases he : s1.e = 0
        · replace he := hd he
          by_cases hv : v = 66
          · obtain rfl : E = 0 := by rw [HE.out, show hdB.getD 1 0 = 66 from rfl, if_pos hv]
            subst hv
            clear HE HF
            go_upto_region 5 with (go_at_call 63; refine hn.mono ?_; rintro e w1 ⟨rfl, ho⟩)
            have k2 := ho.1.cells.2.2.1
            rw [he.out] at k2
            replace ho := hd ho
            clear hn he
            go_wp2_with fail
            go_roundg 3
            all_goals first | omega | exact ⟨2, by omega, rfl, hd (HN.out w1 w1 ho.out (by rw [failS_ok]; exact ROut.refl ho.out.1))⟩
          · obtain rfl : E = 4 := by rw [HE.out, show hdB.getD 1 0 = 66 from rfl, if_neg hv]
            have hv' : ((v : Int) != IntKind.u64.wrap (((⟨#[70, 66, 67, 70, 1]⟩ : ByteArray)[1]'(by decide)).toNat : Int)) = true := by
              rw [show IntKind.u64.wrap (((⟨#[70, 66, 67, 70, 1]⟩ : ByteArray)[1]'(by decide)).toNat : Int) = 66 by decide +kernel]
              simp
              omega
            clear HE hv
            go_upto_region 5 with (go_at_call 63; refine hn.mono ?_; rintro e w1 ⟨rfl, ho⟩)
            have k2 := ho.1.cells.2.2.1
            rw [he.out] at k2
            have hf1 := HF.out w1 ho
            replace ho := hd ho
            clear hn he HF
            go_wp2_with (go_at_call 48; refine hf1.mono ?_; rintro e w2 ⟨rfl, ho2⟩)
            go_roundg 3
            all_goals first | omega | exact ⟨2, by omega, rfl, hd (HN.out w1 w2 ho.out ho2)⟩
        · have d0 : (s1.e == 0) = false := by simpa using he
          replace he := hd he
          clear HE HF
          go_upto_region 5 with (go_at_call 63; refine hn.mono ?_; rintro e w1 ⟨rfl, ho⟩)
          have k2 := ho.1.cells.2.2.1
          replace ho := hd ho
          clear hn
          go_wp2_with fail
          go_roundg 3
          all_goals first | omega | exact ⟨2, by omega, rfl, hd (HN.out w1 w1 ho.out (by rw [failS_bad he.out]; exact ROut.refl ho.out.1))⟩
      · obtain rfl : g = 2 := by omega
        by_cases he : s1.e = 0
        · replace he := hd he
          by_cases hv : v = 67
          · obtain rfl : E = 0 := by rw [HE.out, show hdB.getD 2 0 = 67 from rfl, if_pos hv]
            subst hv
            clear HE HF
            go_upto_region 5 with (go_at_call 63; refine hn.mono ?_; rintro e w1 ⟨rfl, ho⟩)
            have k2 := ho.1.cells.2.2.1
            rw [he.out] at k2
            replace ho := hd ho
            clear hn he
            go_wp2_with fail
            go_roundg 2
            all_goals first | omega | exact ⟨3, by omega, rfl, hd (HN.out w1 w1 ho.out (by rw [failS_ok]; exact ROut.refl ho.out.1))⟩
          · obtain rfl : E = 4 := by rw [HE.out, show hdB.getD 2 0 = 67 from rfl, if_neg hv]
            have hv' : ((v : Int) != IntKind.u64.wrap (((⟨#[70, 66, 67, 70, 1]⟩ : ByteArray)[2]'(by decide)).toNat : Int)) = true := by
              rw [show IntKind.u64.wrap (((⟨#[70, 66, 67, 70, 1]⟩ : ByteArray)[2]'(by decide)).toNat : Int) = 67 by decide +kernel]
              simp
              omega
            clear HE hv
            go_upto_region 5 with (go_at_call 63; refine hn.mono ?_; rintro e w1 ⟨rfl, ho⟩)
            have k2 := ho.1.cells.2.2.1
            rw [he.out] at k2
            have hf1 := HF.out w1 ho
            replace ho := hd ho
            clear hn he HF
            go_wp2_with (go_at_call 48; refine hf1.mono ?_; rintro e w2 ⟨rfl, ho2⟩)
            go_roundg 2
            all_goals first | omega | exact ⟨3, by omega, rfl, hd (HN.out w1 w2 ho.out ho2)⟩
        · have d0 : (s1.e == 0) = false := by simpa using he
          replace he := hd he
          clear HE HF
          go_upto_region 5 with (go_at_call 63; refine hn.mono ?_; rintro e w1 ⟨rfl, ho⟩)
          have k2 := ho.1.cells.2.2.1
          replace ho := hd ho
          clear hn
          go_wp2_with fail
          go_roundg 2
          all_goals first | omega | exact ⟨3, by omega, rfl, hd (HN.out w1 w1 ho.out (by rw [failS_bad he.out]; exact ROut.refl ho.out.1))⟩
      · obtain rfl : g = 1 := by omega
        by_cases he : s1.e = 0
        · replace he := hd he
          by_cases hv : v = 70
          · obtain rfl : E = 0 := by rw [HE.out, show hdB.getD 3 0 = 70 from rfl, if_pos hv]
            subst hv
            clear HE HF
            go_upto_region 5 with (go_at_call 63; refine hn.mono ?_; rintro e w1 ⟨rfl, ho⟩)
            have k2 := ho.1.cells.2.2.1
            rw [he.out] at k2
            replace ho := hd ho
            clear hn he
            go_wp2_with fail
            go_roundg 1
            all_goals first | omega | exact ⟨4, by omega, rfl, hd (HN.out w1 w1 ho.out (by rw [failS_ok]; exact ROut.refl ho.out.1))⟩
          · obtain rfl : E = 4 := by rw [HE.out, show hdB.getD 3 0 = 70 from rfl, if_neg hv]
            have hv' : ((v : Int) != IntKind.u64.wrap (((⟨#[70, 66, 67, 70, 1]⟩ : ByteArray)[3]'(by decide)).toNat : Int)) = true := by
              rw [show IntKind.u64.wrap (((⟨#[70, 66, 67, 70, 1]⟩ : ByteArray)[3]'(by decide)).toNat : Int) = 70 by decide +kernel]
              simp
              omega
            clear HE hv
            go_upto_region 5 with (go_at_call 63; refine hn.mono ?_; rintro e w1 ⟨rfl, ho⟩)
            have k2 := ho.1.cells.2.2.1
            rw [he.out] at k2
            have hf1 := HF.out w1 ho
            replace ho := hd ho
            clear hn he HF
            go_wp2_with (go_at_call 48; refine hf1.mono ?_; rintro e w2 ⟨rfl, ho2⟩)
            go_roundg 1
            all_goals first | omega | exact ⟨4, by omega, rfl, hd (HN.out w1 w2 ho.out ho2)⟩
        · have d0 : (s1.e == 0) = false := by simpa using he
          replace he := hd he
          clear HE HF
          go_upto_region 5 with (go_at_call 63; refine hn.mono ?_; rintro e w1 ⟨rfl, ho⟩)
          have k2 := ho.1.cells.2.2.1
          replace ho := hd ho
          clear hn
          go_wp2_with fail
          go_roundg 1
          all_goals first | omega | exact ⟨4, by omega, rfl, hd (HN.out w1 w1 ho.out (by rw [failS_bad he.out]; exact ROut.refl ho.out.1))⟩
      · obtain rfl : g = 0 := by omega
        by_cases he : s1.e = 0
        · replace he := hd he
          by_cases hv : v = 1
          · obtain rfl : E = 0 := by rw [HE.out, show hdB.getD 4 0 = 1 from rfl, if_pos hv]
            subst hv
            clear HE HF
            go_upto_region 5 with (go_at_call 63; refine hn.mono ?_; rintro e w1 ⟨rfl, ho⟩)
            have k2 := ho.1.cells.2.2.1
            rw [he.out] at k2
            replace ho := hd ho
            clear hn he
            go_wp2_with fail
            go_roundg 0
            all_goals first | omega | exact ⟨5, by omega, rfl, hd (HN.out w1 w1 ho.out (by rw [failS_ok]; exact ROut.refl ho.out.1))⟩
          · obtain rfl : E = 4 := by rw [HE.out, show hdB.getD 4 0 = 1 from rfl, if_neg hv]
            have hv' : ((v : Int) != IntKind.u64.wrap (((⟨#[70, 66, 67, 70, 1]⟩ : ByteArray)[4]'(by decide)).toNat : Int)) = true := by
              rw [show IntKind.u64.wrap (((⟨#[70, 66, 67, 70, 1]⟩ : ByteArray)[4]'(by decide)).toNat : Int) = 1 by decide +kernel]
              simp
              omega
            clear HE hv
            go_upto_region 5 with (go_at_call 63; refine hn.mono ?_; rintro e w1 ⟨rfl, ho⟩)
            have k2 := ho.1.cells.2.2.1
            rw [he.out] at k2
            have hf1 := HF.out w1 ho
            replace ho := hd ho
            clear hn he HF
            go_wp2_with (go_at_call 48; refine hf1.mono ?_; rintro e w2 ⟨rfl, ho2⟩)
            go_roundg 0
            all_goals first | omega | exact ⟨5, by omega, rfl, hd (HN.out w1 w2 ho.out ho2)⟩
        · have d0 : (s1.e == 0) = false := by simpa using he
          replace he := hd he
          clear HE HF
          go_upto_region 5 with (go_at_call 63; refine hn.mono ?_; rintro e w1 ⟨rfl, ho⟩)
          have k2 := ho.1.cells.2.2.1
          replace ho := hd ho
          clear hn
          go_wp2_with fail
          go_roundg 0
          all_goals first | omega | exact ⟨5, by omega, rfl, hd (HN.out w1 w1 ho.out (by rw [failS_bad he.out]; exact ROut.refl ho.out.1))⟩
end
end Go.Proofs.YtmjokinagbpihaaDoor.Doc

/- The document's reader: programs. -/
namespace Go.Proofs.YtmjokinagbpihaaDoor.Doc
open Go.RowKit

section
variable {α : Type} {whole : Res α} {s : St} {bs : List Nat} {n K : Int} {g : Ins → Par α} {R : Res α}
theorem ins_short (h : Stage whole s (bind_ (insP n K) g bs s.nx)) (h0 : s.e = 0) (hl : bs.length < s.nx + 12) : Stage whole { s with e := 5, at_ := bs.length } R := by
  obtain ⟨hw, -⟩ := h.good h0
  unfold bind_ insP at hw
  rw [if_pos hl] at hw
  exact .inr ⟨by simp, hw⟩
theorem ins_wrong (h : Stage whole s (bind_ (insP n K) g bs s.nx)) (h0 : s.e = 0) (hl : s.nx + 12 ≤ bs.length) (hw : (wrong (getI bs s.nx) n K).1 ≠ 0) : Stage whole { s with e := (wrong (getI bs s.nx) n K).1, at_ := s.nx + (wrong (getI bs s.nx) n K).2 } R := by
  obtain ⟨h1, -⟩ := h.good h0
  unfold bind_ insP at h1
  rw [if_neg (by omega), if_pos hw] at h1
  exact .inr ⟨hw, h1⟩
theorem ins_right (h : Stage whole s (bind_ (insP n K) g bs s.nx)) (h0 : s.e = 0) (hl : s.nx + 12 ≤ bs.length) (hw : (wrong (getI bs s.nx) n K).1 = 0) : Stage whole { s with nx := s.nx + 12 } (g (getI bs s.nx) bs (s.nx + 12)) := by
  obtain ⟨h1, h2⟩ := h.good h0
  unfold bind_ insP at h1
  rw [if_neg (by omega), if_neg (by simp [hw])] at h1
  exact .inl ⟨h0, h2, h1⟩
end

/-- While a program is read. -/
structure CoI {α : Type} (whole : Res α) (k : List Ins → Par α) (w : World) (r : Nat) (a : Option Addr) (cap : Nat) (bs : List Nat) (K : Int) (n : Nat) (wr : World) (a1 : Option Addr) (c1 : Nat) (l : List Ins) (s : St) : Prop where
  mi : MkI w r a cap bs s wr 71 5 a1 l.length c1 (pCells l)
  st : Stage whole s (bind_ (repP (fun _ => insP n K) (n - l.length) l) k bs s.nx)
/-- How it is left. -/
def CoO {α : Type} (whole : Res α) (k : List Ins → Par α) (w : World) (r : Nat) (a : Option Addr) (cap : Nat) (bs : List Nat) (n : Nat) (a1 : Option Addr) (c1 : Nat) (l : List Ins) (w' : World) : Prop :=
  ∃ s, MkI w r a cap bs s w' 71 5 a1 l.length c1 (pCells l) ∧ Stage whole s (k l bs s.nx) ∧ l.length ≤ n

section
variable {w : World} {r : Nat} {a : Option Addr} {cap : Nat} {bs : List Nat} {s : St}
set_option maxRecDepth 100000 in
set_option maxHeartbeats 8000000 in
theorem code_any (h : RdAt w r a cap bs s) {α : Type} (whole : Res α) (k : List Ins → Par α) (K : Int) (n : Nat) (hn : n ≤ 65536) (hs : Stage whole s (bind_ (repP (fun _ => insP n K) n []) k bs s.nx)) :
    Calls Tryd.prog 64 #[.pointer (some ⟨r, 0, none⟩), .int .i64 (n : Int), .int .i64 K] w fun e w' => ∃ a1 c1 l, e = .returned (.slice a1 (List.length l) c1) ∧ CoO whole k w r a cap bs n a1 c1 l w' := by
  have H := hd h
  have HI : Hid (CoI whole k w r a cap bs K n (w.alloc (.cells #[] 71)) (some ⟨w.heap.size, 0, none⟩) 0 [] s) := hd ⟨⟨⟨h.below (below_al w _), Mod.of_below _ (below_al w _)⟩, row_new (n := 0) (heap_alloc_new w _) rfl (Nat.zero_le _), fun k hk => Nat.le_of_eq (Option.some.inj hk)⟩, hs⟩
  clear h hs
  go_enter Tryd.func64, Tryd.ntmps64
  go_upto_block 0 with fail
  obtain ⟨w0, hw0⟩ : ∃ W, Hid (w.alloc (.cells #[] 71) = W) := ⟨_, rfl⟩
  rw [hw0.out] at HI ⊢
  generalize w.heap.size = G0 at HI ⊢
  clear hw0
  go_wp2_with fail
  go_loopg [6, 7, 8, 9, 10, 11, 13, 14, 15, 16, 17, 18, 19, 20, 21, 22, 23, 24, 25, 26, 27, 28, 29, 30, 31, 32, 33, 34, 35, 36, 37, 38, 39, 40, 41, 42, 43, 44, 45, 46, 47, 48, 49, 50, 51, 52, 53, 54, 55, 56, 57, 58, 59, 60, 61, 62, 63, 64, 65, 66, 67, 68, 69, 70, 71, 72, 73, 74, 75, 76, 77, 78, 79, 80, 81, 82, 83] n (fun g v6 v7 v8 v9 v10 v11 v13 v14 v15 v16 v17 v18 v19 v20 v21 v22 v23 v24 v25 v26 v27 v28 v29 v30 v31 v32 v33 v34 v35 v36 v37 v38 v39 v40 v41 v42 v43 v44 v45 v46 v47 v48 v49 v50 v51 v52 v53 v54 v55 v56 v57 v58 v59 v60 v61 v62 v63 v64 v65 v66 v67 v68 v69 v70 v71 v72 v73 v74 v75 v76 v77 v78 v79 v80 v81 v82 v83 wr => ∃ (l : List Ins) (len : Nat) (a1 : Option Addr) (c1 : Nat) (s' : St), v7 = .slice a1 len c1 ∧ v8 = .int .i64 (len : Int) ∧ len + g = n ∧ Hid (l.length = len) ∧ Hid (CoI whole k w r a cap bs K n wr a1 c1 l s'))
  case atStart => exact ⟨[], 0, _, 0, s, rfl, by go_num, by omega, hd rfl, HI⟩
  case round =>
    clear HI
    obtain ⟨l, len, a1, c1, s', rfl, rfl, hlen, HL, HW⟩ := hrel
    have k0 := HW.out.mi.out.1.cells.1
    have k1 := HW.out.mi.out.1.cells.2.1
    have k2 := HW.out.mi.out.1.cells.2.2.1
    have f1 := HW.out.mi.out.1.free 1
    have hle := HW.out.mi.out.1.le
    have hnx := HW.out.mi.out.1.nx
    have hrm := HW.out.mi.out.1.room
    by_cases h0 : gk = 0
    · subst h0
      have hge : decide ((len : Int) < (n : Int)) = false := by simp; omega
      have hge' : (n : Int) ≤ (len : Int) := by omega
      have HE : Hid (∃ l', Ending.returned (.slice a1 len c1) = .returned (.slice a1 (List.length l') c1) ∧ CoO whole k w r a cap bs n a1 c1 l' wr) := hd (by
        refine ⟨l, by rw [HL.out], s', HW.out.mi, ?_, by have := HL.out; omega⟩
        have := HW.out.st
        rw [show n - l.length = 0 by have := HL.out; omega] at this
        exact this)
      clear HW HL k0 k1 k2 f1 hle hnx hrm
      go_wp2_with fail
      go_ret
      obtain ⟨l', h1, h2⟩ := HE.out
      exact ⟨a1, c1, l', h1, h2⟩
    · have hlt : (len : Int) < (n : Int) := by omega
      by_cases hz : s'.e = 0
      · rw [hz] at k2
        have hst : Hid (Stage whole s' (bind_ (insP n K) (fun x => bind_ (repP (fun _ => insP n K) (n - (len + 1)) (l ++ [x])) k) bs s'.nx)) := hd (by
          have := HW.out.st
          rw [show n - l.length = (n - (len + 1)) + 1 by have := HL.out; omega, rep_bind] at this
          exact this)
        have HZ := hd hz
        clear hz
        by_cases hsh : bs.length < s'.nx + 12
        · have d1 : (bs.length : Int) - (s'.nx : Int) < 12 := by omega
          have HF : Hid (∀ N, Calls Tryd.prog 48 #[.pointer (some ⟨r, 0, none⟩), .int .i64 5, .int .i64 (bs.length : Int)] (wr.drewN N) fun e w' => e = .returned (.tuple #[]) ∧ ∃ l', Ending.returned (.slice a1 len c1) = .returned (.slice a1 (List.length l') c1) ∧ CoO whole k w r a cap bs n a1 c1 l' w') := hd fun N =>
            (fail_any (HW.out.mi.out.1.below (below_draw wr N)) 5 bs.length (by decide)).mono fun e w' ⟨he, ho⟩ => ⟨he, l, by rw [HL.out], _, (HW.out.mi.after (below_draw wr N)).step H.out.lt ho, by rw [failS_set HZ.out (by decide)]; exact ins_short hst.out HZ.out hsh, by have := HL.out; omega⟩
          clear hst HW HL hsh
          generalize s'.nx = p at *
          go_upto_region 5 with fail
          go_quiet (fail)
          have HF1 := HF.out nq
          have k0' : (wr.drewN nq).cell? ⟨r, 0, none⟩ = some (.slice a bs.length cap) := k0
          clear HF
          go_wp2_with (go_at_call 48; refine HF1.mono ?_; rintro e w2 ⟨rfl, ho⟩)
          replace ho := hd ho
          go_ret
          obtain ⟨l', h1, h2⟩ := ho.out
          exact ⟨a1, c1, l', h1, h2⟩
        · have d1 : decide ((bs.length : Int) - (s'.nx : Int) < 12) = false := by simp; omega
          have d1' : (12 : Int) ≤ (bs.length : Int) - (s'.nx : Int) := by omega
          obtain ⟨b, o, rfl, -⟩ := HW.out.mi.out.1.at s'.nx (by omega)
          have Hget : Hid (∀ W, Below wr.heap.size wr W → Calls Tryd.prog 71 #[.slice (if cap = s'.nx then some ⟨b, o, none⟩ else some ⟨b, o + s'.nx, none⟩) (bs.length - s'.nx) (cap - s'.nx)] W fun e w' => e = .returned (insV (getI bs s'.nx)) ∧ Below W.heap.size W w') := hd fun W hW => by
            rw [if_neg (by omega)]
            exact get_any b (o + s'.nx) (bs.length - s'.nx) (cap - s'.nx) s'.nx bs W H.out.byte (by omega) (fun i hi => by
              have hR := HW.out.mi.out.1.below hW
              obtain ⟨b', o', e, hc⟩ := hR.at (s'.nx + i) (by omega)
              cases e
              rw [Nat.add_assoc]
              exact hc)
          have HX : Hid (∀ W, Below wr.heap.size wr W → MkI w r (some ⟨b, o, none⟩) cap bs s' W 71 5 a1 len c1 (pCells l)) := hd fun W hW => by
            have := HW.out.mi.after hW
            rw [HL.out] at this
            exact this
          have hwb := wrong_at_lt (getI bs s'.nx) n K
          have HXX : Hid (∀ W, Calls Tryd.prog 66 #[insV (getI bs s'.nx), .int .i64 n, .int .i64 K] W fun e w' => e = .returned (.tuple #[.int .i64 (wrong (getI bs s'.nx) n K).1, .int .i64 (wrong (getI bs s'.nx) n K).2]) ∧ Below W.heap.size W w') := hd fun W => rfault_any (getI bs s'.nx) n K W
          have HRW : Hid ((wrong (getI bs s'.nx) n K).1 ≠ 0 → ∀ R, Stage whole { s' with e := (wrong (getI bs s'.nx) n K).1, at_ := s'.nx + (wrong (getI bs s'.nx) n K).2 } R) := hd fun hw R => ins_wrong hst.out HZ.out (by omega) hw
          have HRR : Hid ((wrong (getI bs s'.nx) n K).1 = 0 → Stage whole { s' with nx := s'.nx + 12 } (bind_ (repP (fun _ => insP n K) (n - (len + 1)) (l ++ [getI bs s'.nx])) k bs (s'.nx + 12))) := hd fun hw => ins_right hst.out HZ.out (by omega) hw
          have hln : Hid (s'.nx + 12 ≤ bs.length) := hd (by omega)
          have hpc : s'.nx < cap := by omega
          clear HW hst hsh h0 f1
          generalize (wrong (getI bs s'.nx) n K).1 = E at *
          generalize (wrong (getI bs s'.nx) n K).2 = fld at *
          generalize getI bs s'.nx = x at *
          obtain ⟨p, hp⟩ : ∃ p, Hid (s'.nx = p) := ⟨_, rfl⟩
          rw [hp.out] at k1 d1 d1' Hget hpc HRW HRR hnx hln
          go_upto_region 5 with fail
          go_quiet (fail)
          obtain ⟨w1, hw1⟩ : ∃ W, Hid (wr.drewN nq = W) := ⟨_, rfl⟩
          rw [hw1.out]
          have b1 : Hid (Below wr.heap.size wr w1) := hd (by rw [← hw1.out]; exact below_draw wr nq)
          clear hw1
          have HK : Hid (∀ W, Below wr.heap.size wr W → W.cell? ⟨r, 0, none⟩ = some (.slice (some ⟨b, o, none⟩) bs.length cap) ∧ W.cell? ⟨r, 1, none⟩ = some (.int .i64 (p : Int)) ∧ W.frozen? ⟨r, 1, none⟩ = false) := hd fun W hW => by
            have h1 := (HX.out W hW).out.1.cells
            rw [hp.out] at h1
            exact ⟨h1.1, h1.2.1, (HX.out W hW).out.1.free 1⟩
          obtain ⟨kk0, kk1, -⟩ := HK.out w1 b1.out
          clear k0 k1 k2
          go_upto_region 8 with fail
          have bb1 : Hid (Below wr.heap.size wr w1.drew) := hd (b1.out.trans ((below_draw w1 1).mono b1.out.size))
          have hg1 := Hget.out w1.drew bb1.out
          have bb2 : Hid (Below wr.heap.size wr (w1.alloc (.cells #[.int .i64 0, .int .i64 0, .int .i64 0, .int .i64 0, .int .i64 0] 71)).drew) := hd (b1.out.trans (((below_al w1 _).trans ((below_draw _ 1).mono (below_al w1 _).size)).mono b1.out.size))
          have hg2 := Hget.out _ bb2.out
          have HZK : Hid (∀ W, Below (w1.alloc (.cells #[.int .i64 0, .int .i64 0, .int .i64 0, .int .i64 0, .int .i64 0] 71)).drew.heap.size (w1.alloc (.cells #[.int .i64 0, .int .i64 0, .int .i64 0, .int .i64 0, .int .i64 0] 71)).drew W → W.heap[w1.heap.size]? = some (.cells #[.int .i64 0, .int .i64 0, .int .i64 0, .int .i64 0, .int .i64 0] 71 (0, 0))) := hd fun W hW => by
            have h1 : (w1.alloc (.cells #[.int .i64 0, .int .i64 0, .int .i64 0, .int .i64 0, .int .i64 0] 71)).drew.heap[w1.heap.size]? = some (.cells #[.int .i64 0, .int .i64 0, .int .i64 0, .int .i64 0, .int .i64 0] 71 (0, 0)) := heap_alloc_new w1 _
            exact (hW.block _ (Array.getElem?_eq_some_iff.1 h1).1).trans h1
          have HZL : Hid (∀ W : World, W.heap[w1.heap.size]? = some (.cells #[.int .i64 0, .int .i64 0, .int .i64 0, .int .i64 0, .int .i64 0] 71 (0, 0)) → W.cell? ⟨w1.heap.size, 0, none⟩ = some (.int .i64 0) ∧ W.cell? ⟨w1.heap.size, 1, none⟩ = some (.int .i64 0) ∧ W.cell? ⟨w1.heap.size, 2, none⟩ = some (.int .i64 0) ∧ W.cell? ⟨w1.heap.size, 3, none⟩ = some (.int .i64 0) ∧ W.cell? ⟨w1.heap.size, 4, none⟩ = some (.int .i64 0) ∧ W.frozen? ⟨w1.heap.size, 0, none⟩ = false ∧ W.frozen? ⟨w1.heap.size, 1, none⟩ = false ∧ W.frozen? ⟨w1.heap.size, 2, none⟩ = false ∧ W.frozen? ⟨w1.heap.size, 3, none⟩ = false ∧ W.frozen? ⟨w1.heap.size, 4, none⟩ = false) := hd fun W h1 =>
            ⟨cell_of_row W w1.heap.size 0 _ _ _ h1, cell_of_row W w1.heap.size 1 _ _ _ h1, cell_of_row W w1.heap.size 2 _ _ _ h1, cell_of_row W w1.heap.size 3 _ _ _ h1, cell_of_row W w1.heap.size 4 _ _ _ h1, by simp [World.frozen?, h1], by simp [World.frozen?, h1], by simp [World.frozen?, h1], by simp [World.frozen?, h1], by simp [World.frozen?, h1]⟩
          go_cut [9] (fun v9 wy => ∃ G, v9 = .pointer (some ⟨G, 0, none⟩) ∧ Hid (Below wr.heap.size wr wy ∧ wy.heap[G]? = some (.cells #[.int .i64 x.op, .int .i64 x.a, .int .i64 x.b, .int .i64 x.c, .int .i64 x.imm] 71 (0, 0)) ∧ wr.heap.size ≤ G))
          case first =>
            have hne1 : r ≠ w1.heap.size := Nat.ne_of_lt (HX.out w1 b1.out).out.1.lt
            have hne2 : w1.heap.size ≠ r := fun e => hne1 e.symm
            unfold insV at hg1 hg2
            go_region_held3 (fun w' => w'.cell? ⟨r, 0, none⟩ = some (.slice (some ⟨b, o, none⟩) bs.length cap) ∧ w'.cell? ⟨r, 1, none⟩ = some (.int .i64 (p : Int))) (go_keep)
              (first
                | (go_at_call 71; with_reducible refine hg1.mono ?_; rintro e k1 ⟨rfl, hb1⟩; have bk1 : Hid (Below wr.heap.size wr k1) := hd (bb1.out.trans (hb1.mono bb1.out.size)); replace hb1 := hd hb1; obtain ⟨kk0, kk1, -⟩ := HK.out k1 bk1.out)
                | (go_at_call 71; with_reducible refine hg2.mono ?_; rintro e k1 ⟨rfl, hb1⟩; have bk1 : Hid (Below wr.heap.size wr k1) := hd (bb2.out.trans (hb1.mono bb2.out.size)); have hzk := hd (HZK.out k1 hb1); obtain ⟨z0, z1, z2, z3, z4, y0, y1, y2, y3, y4⟩ := HZL.out k1 hzk.out; replace hb1 := hd hb1; obtain ⟨kk0, kk1, -⟩ := HK.out k1 bk1.out))
            · go_wp2_with fail
              go_meet
              exact ⟨k1.heap.size, rfl, hd ⟨bk1.out.trans ((below_al k1 _).mono bk1.out.size), heap_alloc_new k1 _, bk1.out.size⟩⟩
            · go_wp2_with fail
              go_meet
              have hG : wr.heap.size ≤ w1.heap.size := b1.out.size
              exact ⟨w1.heap.size, rfl, hd ⟨Mod.below (B := wr.heap.size) ((((((Mod.of_below (fun _ => False) bk1.out).setCell (.inr hG) _).setCell (.inr hG) _).setCell (.inr hG) _).setCell (.inr hG) _).setCell (.inr hG) _) (Nat.le_refl _) (fun k _ hk => hk.elim), five_cells hzk.out, hG⟩⟩
          case rest =>
          obtain ⟨G, rfl, HC⟩ := hcut
          clear HZL HZK hg1 hg2 bb1 bb2 b1 Hget kk0 kk1 d1 d1'
          have HG : Hid (∀ W, Below wc.heap.size wc W → W.heap[G]? = some (.cells #[.int .i64 x.op, .int .i64 x.a, .int .i64 x.b, .int .i64 x.c, .int .i64 x.imm] 71 (0, 0))) := hd fun W hW => (hW.block G (Array.getElem?_eq_some_iff.1 HC.out.2.1).1).trans HC.out.2.1
          have HGc : Hid (∀ W : World, W.heap[G]? = some (.cells #[.int .i64 x.op, .int .i64 x.a, .int .i64 x.b, .int .i64 x.c, .int .i64 x.imm] 71 (0, 0)) → W.cell? ⟨G, 0, none⟩ = some (.int .i64 x.op) ∧ W.cell? ⟨G, 1, none⟩ = some (.int .i64 x.a) ∧ W.cell? ⟨G, 2, none⟩ = some (.int .i64 x.b) ∧ W.cell? ⟨G, 3, none⟩ = some (.int .i64 x.c) ∧ W.cell? ⟨G, 4, none⟩ = some (.int .i64 x.imm)) := hd fun W h1 =>
            ⟨cell_of_row W G 0 _ _ _ h1, cell_of_row W G 1 _ _ _ h1, cell_of_row W G 2 _ _ _ h1, cell_of_row W G 3 _ _ _ h1, cell_of_row W G 4 _ _ _ h1⟩
          obtain ⟨x0, x1, x2, x3, x4⟩ := HGc.out wc (HG.out wc (below_same wc))
          have hwr := HXX.out wc
          unfold insV at hwr
          go_upto_region 10 with (go_at_call 66; refine hwr.mono ?_; rintro e w2 ⟨rfl, hb2⟩; replace hb2 := hd hb2)
          clear x0 x1 x2 x3 x4 hwr HXX
          have B2 : Hid (Below wr.heap.size wr w2) := hd (HC.out.1.trans (hb2.out.mono HC.out.1.size))
          obtain ⟨kk0, kk1, kf1⟩ := HK.out w2 B2.out
          by_cases hE : E = 0
          · obtain ⟨a', c', w3, hap, hm⟩ := (HX.out w2 B2.out).push H.out Tryd.underlying39 info_insn rfl (by omega) (by omega) (insCells x) rfl (insCells_one x)
            have HN : Hid (CoI whole k w r (some ⟨b, o, none⟩) cap bs K n (w3.setCell ⟨r, 1, none⟩ (.int .i64 (p + 12 : Nat))) a' c' (l ++ [x]) { s' with nx := s'.nx + 12 }) := hd (by
              have h1 := hln.out
              have ho : ROut w3 r (some ⟨b, o, none⟩) cap bs { s' with nx := s'.nx + 12 } (w3.setCell ⟨r, 1, none⟩ (.int .i64 (p + 12 : Nat))) := by
                rw [← hp.out] at h1 ⊢
                exact ⟨hm.out.1.put 1 _ (s' := { s' with nx := s'.nx + 12 }) rfl h1 hm.out.1.fr, (Mod.refl (fun k => k = r) w3).setCell (.inl rfl) _⟩
              refine ⟨?_, ?_⟩
              · have h2 := hm.step H.out.lt ho
                rw [pCells_snoc, show (l ++ [x]).length = len + 1 by simp [HL.out]]
                exact h2
              · have h3 := HRR.out hE
                rw [show n - (l ++ [x]).length = n - (len + 1) by simp [HL.out]]
                simp only [hp.out] at h3 ⊢
                exact h3)
            have hm1 := hm.out.1.cells.2.1
            have hm2 := hm.out.1.free 1
            rw [hp.out] at hm1
            obtain ⟨P, hP⟩ : ∃ P, Hid (p + 12 = P) := ⟨_, rfl⟩
            have eP : (p : Int) + 12 = (P : Int) := by have := hP.out; omega
            rw [hP.out] at HN
            obtain ⟨x0, x1, x2, x3, x4⟩ := HGc.out w2 (HG.out w2 hb2.out)
            subst hE
            replace hap := hd hap
            clear hm HRR HRW HG HGc HK HX hP
            go_wp2_with (at_builtin; refine wpList_append_run rfl _ _ _ rfl _ _ _ _ rfl rfl hap.out ?_; clear hap)
            go_roundg (gk - 1)
            case rel => exact ⟨l ++ [x], len + 1, a', c', _, rfl, by go_num, by omega, hd (by rw [← HL.out]; simp), HN⟩
            case measure => omega
          · have hf := fail_any (HX.out w2 B2.out).out.1 E ((p : Int) + fld) hE
            have dE : (E != 0) = true := by simpa using hE
            have HZ2 : Hid (∀ W, ROut w2 r (some ⟨b, o, none⟩) cap bs (failS s' E ((p : Int) + fld)) W → ∃ l', Ending.returned (.slice a1 len c1) = .returned (.slice a1 (List.length l') c1) ∧ CoO whole k w r (some ⟨b, o, none⟩) cap bs n a1 c1 l' W) := hd fun W ho => by
              refine ⟨l, by rw [HL.out], failS s' E ((p : Int) + fld), ?_, ?_, by have := HL.out; omega⟩
              · have h2 := (HX.out w2 B2.out).step H.out.lt ho
                rw [HL.out]
                exact h2
              · have h3 := HRW.out hE
                rw [failS_set HZ.out hE]
                exact h3 _
            clear HRR HRW HG HGc HK HX hE
            go_wp2_with (go_at_call 48; refine hf.mono ?_; rintro e w4 ⟨rfl, ho⟩; replace ho := hd ho)
            go_ret
            obtain ⟨l', h1, h2⟩ := HZ2.out w4 ho.out
            exact ⟨a1, c1, l', h1, h2⟩
      · have d0 : (s'.e == 0) = false := by simpa using hz
        have HE : Hid (∃ l', Ending.returned (.slice a1 len c1) = .returned (.slice a1 (List.length l') c1) ∧ CoO whole k w r a cap bs n a1 c1 l' wr) := hd (by
          refine ⟨l, by rw [HL.out], s', HW.out.mi, ?_, by have := HL.out; omega⟩
          exact .inr ⟨hz, HW.out.st.bad hz⟩)
        clear HW HL h0 hz k0 k1 f1 hle hnx hrm
        go_wp2_with fail
        go_ret
        obtain ⟨l', h1, h2⟩ := HE.out
        exact ⟨a1, c1, l', h1, h2⟩
end
end Go.Proofs.YtmjokinagbpihaaDoor.Doc
