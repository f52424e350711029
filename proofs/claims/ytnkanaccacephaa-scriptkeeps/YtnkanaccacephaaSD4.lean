/- The document's Decode. -/
import Derived.Test.YtnkanaccacephaaSD3
import Derived.Test.YtnkanaccacephaaSW8
namespace Go.Proofs.Ytnkanaccacephaa.Doc
open Go.RowKit

/-- A row of the call's own that is being made beside the reader. -/
structure MkI (w : World) (r : Nat) (a : Option Addr) (cap : Nat) (bs : List Nat) (s : St) (wr : World) (e size : Nat) (a1 : Option Addr) (n c1 : Nat) (xs : List Value) : Prop where
  out : ROut w r a cap bs s wr
  row : Row wr e size a1 n c1 xs
  new : ∀ k, blk a1 = some k → w.heap.size ≤ k

section
variable {w wr w1 : World} {r : Nat} {a : Option Addr} {cap : Nat} {bs : List Nat} {s s' : St} {e size n c1 : Nat} {a1 : Option Addr} {xs : List Value}
theorem RdAt.alt (h : RdAt w r a cap bs s) : ∀ k, blk a = some k → k < w.heap.size ∨ bs.length = 0 := fun k hk => by
  by_cases hb : bs.length = 0
  · exact .inr hb
  · obtain ⟨b, o, rfl, hc⟩ := h.at 0 (by omega)
    cases hk
    exact .inl (World.block_lt_of_cell? w _ hc)
theorem MkI.step (h : MkI w r a cap bs s wr e size a1 n c1 xs) (hr : r < w.heap.size) (o : ROut wr r a cap bs s' w1) : MkI w r a cap bs s' w1 e size a1 n c1 xs :=
  ⟨h.out.trans o, h.row.mod o.2 (fun k hk e => by have := h.new k hk; omega), h.new⟩
theorem MkI.after (h : MkI w r a cap bs s wr e size a1 n c1 xs) (hb : Below wr.heap.size wr w1) : MkI w r a cap bs s w1 e size a1 n c1 xs :=
  ⟨h.out.after hb, h.row.below hb, h.new⟩
theorem MkI.push {T : TypeId} {z : Value} {bytes : Nat} (h : MkI w r a cap bs s wr e size a1 n c1 xs) (h0 : RdAt w r a cap bs s') (hu : Try.prog.underlying T = some (.slice e)) (hinfo : (Try.prog.info? e).map (fun i => (i.zero, i.size, i.bytes)) = some (some z, size, bytes)) (hzs : z.cells.size = size) (hb64 : bytes ≤ 64)
    (hn : n ≤ 1000000000000) (us : List Value) (hus : us.length = size) (h1 : ∀ u ∈ us, u.oneCell' = true) :
    ∃ a' c' w', (∀ ty, (Builtin.append_ #[T, T] ty #[.slice a1 n c1, .slice (some ⟨wr.heap.size, 0, none⟩) 1 1]).run Try.prog (wr.alloc (.cells us.toArray e)) = .ok (.slice a' (n + 1) c') w') ∧ MkI w r a cap bs s w' e size a' (n + 1) c' (xs ++ us) := by
  obtain ⟨a', c', w', k1, k2, k3, k4⟩ := push_any hu hinfo hzs hb64 h.row hn us hus h1
  have hr := h0.lt
  refine ⟨a', c', w', k1, ⟨⟨?_, h.out.2.trans k3 (fun i hi => .inr (h.new i hi))⟩, k2, fun k hk => ?_⟩⟩
  · have o := h.out.1
    refine ⟨?_, Rd.apart h0.rd o.rd k3 h.new rfl, o.ne, o.byte, o.le, o.room, o.nx, o.fr⟩
    rw [k3.block r o.lt (fun e => by have := h.new r e; omega)]
    exact o.obj
  · rcases k4 k hk with h' | h'
    · exact h.new k h'
    · have := h.out.2.size
      omega
end


/-- A step that is being read beside the others: its own cells at G. -/
structure DB (w : World) (r : Nat) (a : Option Addr) (cap : Nat) (bs : List Nat) (s : St) (W : World) (a1 : Option Addr) (n c1 : Nat) (xs : List Value) (G : Nat) (x y z : Int) : Prop where
  mk_ : MkI w r a cap bs s W 38 3 a1 n c1 xs
  box : W.heap[G]? = some (.cells #[.int .i64 x, .int .i64 y, .int .i64 z] 38 (0, 0))
  new : w.heap.size ≤ G
  ne : blk a1 ≠ some G

section
variable {w W W' : World} {r : Nat} {a : Option Addr} {cap : Nat} {bs : List Nat} {s s' s0 : St} {a1 : Option Addr} {n c1 G : Nat} {xs : List Value} {x y z : Int}
theorem DB.start (h : MkI w r a cap bs s W 38 3 a1 n c1 xs) (x y z : Int) : DB w r a cap bs s (W.alloc (.cells #[.int .i64 x, .int .i64 y, .int .i64 z] 38)) a1 n c1 xs W.heap.size x y z :=
  ⟨h.after (below_al W _), heap_alloc_new W _, h.out.2.size, fun e => by have := h.row.lt _ e; omega⟩
theorem DB.step (h : DB w r a cap bs s W a1 n c1 xs G x y z) (hr : r < w.heap.size) (o : ROut W r a cap bs s' W') : DB w r a cap bs s' W' a1 n c1 xs G x y z := by
  have := h.new
  exact ⟨h.mk_.step hr o, by rw [o.2.block G (Array.getElem?_eq_some_iff.1 h.box).1 (by omega)]; exact h.box, h.new, h.ne⟩
theorem DB.put (h : DB w r a cap bs s W a1 n c1 xs G x y z) (h0 : RdAt w r a cap bs s0) (i : Nat) (v : Value) {x' y' z' : Int} (he : (#[.int .i64 x, .int .i64 y, .int .i64 z] : Array Value).setIfInBounds i v = #[.int .i64 x', .int .i64 y', .int .i64 z']) : DB w r a cap bs s (W.setCell ⟨G, i, none⟩ v) a1 n c1 xs G x' y' z' := by
  refine ⟨⟨h.mk_.out.put h0 h.new i v, h.mk_.row.mod ((Mod.refl (fun k => k = G) W).setCell (.inl rfl) v) (fun k hk e => h.ne (by rw [hk, e])), h.mk_.new⟩, ?_, h.new, h.ne⟩
  rw [heap_setCell_same W G i _ _ v h.box, he]
theorem DB.cells (h : DB w r a cap bs s W a1 n c1 xs G x y z) : W.cell? ⟨G, 0, none⟩ = some (.int .i64 x) ∧ W.cell? ⟨G, 1, none⟩ = some (.int .i64 y) ∧ W.cell? ⟨G, 2, none⟩ = some (.int .i64 z) :=
  ⟨cell_of_row _ _ _ _ _ _ h.box, cell_of_row _ _ _ _ _ _ h.box, cell_of_row _ _ _ _ _ _ h.box⟩
theorem DB.free (h : DB w r a cap bs s W a1 n c1 xs G x y z) (i : Nat) : W.frozen? ⟨G, i, none⟩ = false := by simp [World.frozen?, h.box]
end

theorem kind_int : intF 1 3 1 1 = kindE := rfl
theorem many_int : intF 0 1024 3 3 = manyE := rfl

set_option maxRecDepth 100000 in
set_option maxHeartbeats 4000000 in
theorem rdecode_any (a : Option Addr) (cap : Nat) (bs : List Nat) (w : World) (hR : Rd w a (bCells bs)) (hb : Byte bs) (hcap : bs.length ≤ cap) :
    Calls Try.prog 14 #[.slice a bs.length cap] w (DecOut w bs) := by
  by_cases hn : 1048576 < bs.length
  · have hn' : (1048576 : Int) < (bs.length : Int) := by omega
    have HE := hd (dec_out_nil (w := w) (w' := w) (decF_long hn) (Below.refl _ _))
    clear hR hb hcap
    go_enter Try.func14, Try.ntmps14
    go_wp2_with fail
    go_ret3
    exact HE.out
  · have hnd : decide ((1048576 : Int) < (bs.length : Int)) = false := by simp; omega
    have hle : (bs.length : Int) ≤ 1048576 := by omega
    have hal := below_al w (.cells #[.slice a bs.length cap, .int .i64 0, .int .i64 0, .int .i64 0] 51)
    have HR : RdAt (w.alloc (.cells #[.slice a bs.length cap, .int .i64 0, .int .i64 0, .int .i64 0] 51)) w.heap.size a cap bs ⟨0, 0, 0, 0⟩ := by
      refine ⟨heap_alloc_new w _, hR.below hal, ?_, hb, by omega, hcap, Nat.zero_le _, Nat.zero_le _⟩
      intro hz k hk e
      obtain ⟨b, o, rfl, hc⟩ := hR 0 (.int .u8 ((bs.getD 0 0 : Nat) : Int)) (by simp [bCells, List.getD_eq_getElem?_getD, List.getElem?_eq_getElem (show 0 < bs.length by omega)])
      have := World.block_lt_of_cell? w _ hc
      cases hk
      simp only at this e
      omega
    obtain ⟨w1, hw1⟩ : ∃ W, Hid (w.alloc (.cells #[.slice a bs.length cap, .int .i64 0, .int .i64 0, .int .i64 0] 51) = W) := ⟨_, rfl⟩
    have hs1 : Hid (w.heap.size < w1.heap.size) := hd (by rw [← hw1.out]; simp)
    rw [hw1.out] at hal HR
    have HBL : Hid (∀ (W : World) (n : Nat), Mod (fun k => k = w.heap.size) w1 W → Below w.heap.size w (W.drewN n)) := hd (fun W n hm =>
      (hal.trans (hm.below (B := w.heap.size) hal.size (fun k _ hk => by omega))).trans ((below_draw W n).mono (by have h1 := hal.size; have h2 := hm.size; omega)))
    have HOK : Hid (∀ (l : List Stp) (a1 : Option Addr) (c1 : Nat) (W : World), Mod (fun k => k = w.heap.size) w1 W → Row W 38 3 a1 l.length c1 (sCells l) → (∀ k, blk a1 = some k → w1.heap.size ≤ k) → ∀ q, wholeS bs = .ok l q → DecOut w bs (.returned (.tuple #[.slice a1 l.length c1, .int .i64 0, .int .i64 0])) W) := hd (by
      intro l a1 c1 W hm hrow hnew q hw
      have e := decF_fine hn hw
      unfold DecOut
      rw [e]
      exact ⟨a1, c1, rfl, hrow, fun k hk => by have := hnew k hk; have := hal.size; omega, HBL.out W 0 hm⟩)
    have hmark := mark_any HR (wholeS bs) (fun _ => bind_ bodyP fin) (.inl ⟨rfl, rfl, rfl⟩)
    rw [body_eq] at hmark
    have HN := hd hn
    replace HR := hd HR
    clear hR hal hn
    go_enter Try.func14, Try.ntmps14
    go_upto_region 4 with fail
    rw [hw1.out]
    clear hw1
    obtain ⟨R0, hR0⟩ : ∃ R0, Hid (w.heap.size = R0) := ⟨_, rfl⟩
    rw [hR0.out] at hs1 HBL HOK hmark HR ⊢
    go_upto_region 5 with (go_at_call 25; refine hmark.mono ?_; rintro e w2 ⟨rfl, s1, acc, o1, st1⟩; replace o1 := hd o1; replace st1 := hd st1)
    clear hmark
    have hc := int_any o1.out.1 2 (by omega) 0 1024 3 3 (by omega) (by decide) (by decide)
    rw [many_int] at hc
    have hch := Stage.chk st1.out
    have hns := num_small (bs := bs) (s := s1) HR.out.byte 2 (by omega)
    rw [show (numS bs 2 s1).1 = (chkS bs 2 manyE s1).1 from rfl] at hns
    generalize (chkS bs 2 manyE s1).1 = N at *
    generalize (chkS bs 2 manyE s1).2 = s2 at *
    have HX : Hid (∀ W, ROut w2 R0 a cap bs s2 W → MkI w1 R0 a cap bs s2 (W.alloc (.cells #[] 38)) 38 3 (some ⟨W.heap.size, 0, none⟩) ([] : List Stp).length 0 (sCells []) ∧ Stage (wholeS bs) s2 (bind_ (stepsP N []) fin bs s2.nx)) := hd (fun W o => by
      have h1 := (o1.out.trans o).after (below_al W (.cells #[] 38))
      refine ⟨⟨h1, ?_, fun k hk => by cases hk; exact (o1.out.trans o).2.size⟩, hch⟩
      have := row_new (size := 3) (n := 0) (heap_alloc_new W (.cells #[] 38)) rfl (by unfold maxLen; omega)
      exact this)
    clear hch st1 o1
    go_upto_region 7 with (go_at_call 26; refine hc.mono ?_; rintro e w3 ⟨rfl, o3⟩; have HI := hd (HX.out w3 o3); clear o3)
    clear HX hc
    obtain ⟨w4, hw4⟩ : ∃ W, Hid (w3.alloc (.cells #[] 38) = W) := ⟨_, rfl⟩
    obtain ⟨Z, hZ⟩ : ∃ Z, Hid (w3.heap.size = Z) := ⟨_, rfl⟩
    rw [hw4.out, hZ.out] at HI ⊢
    clear hw4 hZ
    go_wp2_with fail
    go_loopg [7, 8, 9, 21, 22, 23, 24, 25, 26, 27, 28, 29, 30, 31, 32, 33, 34, 35, 36, 37, 38, 39, 40, 41, 42, 43, 44, 45, 46, 47, 48, 49, 50] N (fun g v7 v8 v9 v21 v22 v23 v24 v25 v26 v27 v28 v29 v30 v31 v32 v33 v34 v35 v36 v37 v38 v39 v40 v41 v42 v43 v44 v45 v46 v47 v48 v49 v50 wr => ∃ (l : List Stp) (a1 : Option Addr) (c1 : Nat), l.length + g = N ∧ v8 = .int .i64 (l.length : Int) ∧ v7 = .slice a1 l.length c1 ∧ Hid (∃ s', MkI w1 R0 a cap bs s' wr 38 3 a1 l.length c1 (sCells l) ∧ Stage (wholeS bs) s' (bind_ (stepsP g l) fin bs s'.nx)))
    case atStart => exact ⟨[], some ⟨Z, 0, none⟩, 0, by simp, rfl, rfl, hd ⟨s2, HI.out⟩⟩
    case round =>
      obtain ⟨l, a1, c1, hlN, rfl, rfl, HL⟩ := hrel
      clear HI
      obtain ⟨s', hm, hst⟩ := HL.out
      clear HL
      have hn := HN.out
      by_cases hg : gk = 0
      · subst hg
        rw [steps_zero] at hst
        have d0 : decide ((l.length : Int) < (N : Int)) = false := by simp; omega
        have d0' : (N : Int) ≤ (l.length : Int) := by omega
        by_cases he : s'.e = 0
        · by_cases hnx : s'.nx < bs.length
          · have hwh := (hst.good he).1
            unfold fin at hwh
            rw [if_pos hnx] at hwh
            have hnx' : (s'.nx : Int) < (bs.length : Int) := by omega
            have k1 := hm.out.1.cells.2.1
            have k2 := hm.out.1.cells.2.2.1
            have hfl := fail_any hm.out.1 6 s'.nx (by decide)
            rw [failS_set he (by decide)] at hfl
            rw [he] at k2
            have HZ := hd (fun (W : World) (hb : Below w.heap.size w W) => dec_out_nil (decF_bad hn hwh) hb)
            have HBw : Hid (∀ W n, ROut wr R0 a cap bs { s' with e := 6, at_ := (s'.nx : Int) } W → Below w.heap.size w (W.drewN n)) := hd (fun W n o => by rw [hR0.out]; exact HBL.out _ n (hm.out.trans o).2)
            clear hm hst he
            go_upto_region 17 with (go_at_call 28; refine hfl.mono ?_; rintro e w5 ⟨rfl, o5⟩)
            have q2 := o5.1.cells.2.2.1
            have q3 := o5.1.cells.2.2.2
            simp only at q2 q3
            have HY : Hid (∀ n, Below w.heap.size w (w5.drewN n)) := hd (fun n => HBw.out w5 n o5)
            clear o5 HBw hfl
            go_upto_region 18 with fail
            go_quiet (fail)
            go_wp2_with fail
            go_ret3
            exact HZ.out _ (HY.out _)
          · have hwh := (hst.good he).1
            unfold fin at hwh
            rw [if_neg hnx] at hwh
            have hnx' : decide ((s'.nx : Int) < (bs.length : Int)) = false := by simp; omega
            have hnx2 : (bs.length : Int) ≤ (s'.nx : Int) := by omega
            have k1 := hm.out.1.cells.2.1
            have k2 := hm.out.1.cells.2.2.1
            rw [he] at k2
            have HZ := hd (HOK.out l a1 c1 wr hm.out.2 hm.row (fun k hk => hm.new k hk) _ hwh)
            clear hm hst he
            go_wp2_with fail
            go_ret3
            exact HZ.out
        · have hwh := hst.bad he
          have k2 := hm.out.1.cells.2.2.1
          have k3 := hm.out.1.cells.2.2.2
          have he0 : (s'.e == 0) = false := by simpa using he
          have he1 : (s'.e != 0) = true := by simpa using he
          have HZ := hd (fun (W : World) (hb : Below w.heap.size w W) => dec_out_nil (decF_bad hn hwh) hb)
          have HY : Hid (∀ n, Below w.heap.size w (wr.drewN n)) := hd (fun n => by rw [hR0.out]; exact HBL.out _ n hm.out.2)
          replace he := hd he
          clear hm hst
          go_upto_region 18 with fail
          go_quiet (fail)
          go_wp2_with fail
          go_ret3
          exact HZ.out _ (HY.out _)
      · have d0 : (l.length : Int) < (N : Int) := by omega
        by_cases he : s'.e = 0
        · have k2 := hm.out.1.cells.2.2.1
          rw [he] at k2
          obtain ⟨g, rfl⟩ : ∃ g, gk = g + 1 := ⟨gk - 1, by omega⟩
          rw [steps_more] at hst
          have hx := Stage.step hst
          have hbt := HR.out.byte
          have hl1 := num_small (bs := bs) (s := s') hbt 1 (by omega)
          have hl4 := num_small (bs := bs) (s := (chkS bs 1 kindE s').2) hbt 4 (by omega)
          have hl8 := num_64 (bs := bs) (s := (numS bs 4 (chkS bs 1 kindE s').2).2) hbt
          have hk := int_any hm.out.1 1 (by omega) 1 3 1 1 (by omega) (by decide) (by decide)
          rw [kind_int, show (chkS bs 1 kindE s').1 = (numS bs 1 s').1 from rfl] at hk
          have N4 : Hid (∀ W, RdAt W R0 a cap bs (chkS bs 1 kindE s').2 → _) := hd (fun W hW => num_any (w := W) hW 4 ⟨by omega, by omega⟩)
          have N8 : Hid (∀ W, RdAt W R0 a cap bs (numS bs 4 (chkS bs 1 kindE s').2).2 → _) := hd (fun W hW => num_any (w := W) hW 8 ⟨by omega, by omega⟩)
          unfold stR at hx
          simp only at hx
          have HX : Hid (∀ W, ROut wr R0 a cap bs (chkS bs 1 kindE s').2 W → MkI w1 R0 a cap bs (chkS bs 1 kindE s').2 W 38 3 a1 l.length c1 (sCells l)) := hd (fun W o => hm.step hs1.out o)
          clear hst hm he hbt
          generalize (chkS bs 1 kindE s').2 = s3 at *
          generalize (numS bs 1 s').1 = k at *
          generalize (numS bs 4 s3).1 = n at *
          generalize (numS bs 4 s3).2 = s4 at *
          generalize (numS bs 8 s4).1 = v at *
          generalize (numS bs 8 s4).2 = s5 at *
          replace hx := hd hx
          have ek : IntKind.i64.wrap (k : Int) = (k : Int) := by rw [IntKind.wrap_i64]; omega
          have en : IntKind.i64.wrap (n : Int) = (n : Int) := by rw [IntKind.wrap_i64]; omega
          have ev : IntKind.i64.wrap (v : Int) = wrap64 (v : Int) := wrap_i64_nat v
          go_upto_region 11 with (go_at_call 26; refine hk.mono ?_; rintro e w5 ⟨rfl, o5⟩; have hm5 := HX.out w5 o5; clear o5)
          have B6 := DB.start hm5 (k : Int) 0 0
          clear hk HX hm5 k2
          obtain ⟨w6, hw6⟩ : ∃ W, Hid (w5.alloc (.cells #[.int .i64 (k : Int), .int .i64 0, .int .i64 0] 38) = W) := ⟨_, rfl⟩
          obtain ⟨G, hG⟩ : ∃ G, Hid (w5.heap.size = G) := ⟨_, rfl⟩
          rw [hw6.out, hG.out] at B6 ⊢
          clear hw6 hG
          have hn4 := N4.out w6 B6.mk_.out.1
          have HX : Hid (∀ W, ROut w6 R0 a cap bs s4 W → DB w1 R0 a cap bs s4 W a1 l.length c1 (sCells l) G k 0 0 ∧ DB w1 R0 a cap bs s4 (W.setCell ⟨G, 1, none⟩ (.int .i64 (n : Nat))) a1 l.length c1 (sCells l) G k n 0) := hd (fun W o => by
            have h1 := B6.step hs1.out o
            exact ⟨h1, h1.put HR.out 1 _ rfl⟩)
          clear B6 N4
          go_upto_region 12 with (go_at_call 27; refine hn4.mono ?_; rintro e w7 ⟨rfl, o7⟩; obtain ⟨B7, B8⟩ := HX.out w7 o7; have c1' := B7.cells.2.1; have f1 := B7.free 1; replace B8 := hd B8; clear o7 B7)
          obtain ⟨w8, hw8⟩ : ∃ W, Hid (w7.setCell ⟨G, 1, none⟩ (.int .i64 (n : Nat)) = W) := ⟨_, rfl⟩
          rw [hw8.out] at B8 ⊢
          clear hw8 c1' f1 hn4 HX
          have c0 := B8.out.cells.1
          have HA : Hid (∀ W (s9 : St) (z : Int), DB w1 R0 a cap bs s9 W a1 l.length c1 (sCells l) G k n z → ∃ a' c' w', (∀ ty, (Builtin.append_ #[23, 23] ty #[.slice a1 l.length c1, .slice (some ⟨W.heap.size, 0, none⟩) 1 1]).run Try.prog (W.alloc (.cells #[.int .i64 (k : Int), .int .i64 (n : Int), .int .i64 z] 38)) = .ok (.slice a' (l.length + 1) c') w') ∧ MkI w1 R0 a cap bs s9 w' 38 3 a' (l.length + 1) c' (sCells (l ++ [⟨k, n, z⟩]))) := hd (fun W s9 z h => by
            obtain ⟨a', c', w', h1, h2⟩ := h.mk_.push HR.out Try.underlying23 info_step rfl (by omega) (by omega) (stC ⟨k, n, z⟩) rfl (stC_one _)
            exact ⟨a', c', w', h1, by rw [← sCells_app]; exact h2⟩)
          by_cases h2 : k = 2
          · rw [if_pos h2, if_pos h2] at hx
            have hv' : ((k : Int) == 2) = true := by simp; omega
            have hn8 := N8.out w8 B8.out.mk_.out.1
            have HX : Hid (∀ W, ROut w8 R0 a cap bs s5 W → DB w1 R0 a cap bs s5 W a1 l.length c1 (sCells l) G k n 0 ∧ DB w1 R0 a cap bs s5 (W.setCell ⟨G, 2, none⟩ (.int .i64 (wrap64 (v : Nat)))) a1 l.length c1 (sCells l) G k n (wrap64 (v : Nat))) := hd (fun W o => by
              have h1 := B8.out.step hs1.out o
              exact ⟨h1, h1.put HR.out 2 _ rfl⟩)
            clear B8 N8
            replace h2 := hd h2
            go_upto_region 14 with (go_at_call 27; refine hn8.mono ?_; rintro e w9 ⟨rfl, o9⟩; obtain ⟨B9, B10⟩ := HX.out w9 o9; have c2' := B9.cells.2.2; have f2 := B9.free 2; clear o9 B9)
            clear hn8 HX c0
            obtain ⟨w10, hw10⟩ : ∃ W, Hid (w9.setCell ⟨G, 2, none⟩ (.int .i64 (wrap64 (v : Nat))) = W) := ⟨_, rfl⟩
            rw [hw10.out] at B10 ⊢
            clear hw10 c2' f2
            obtain ⟨c0, c1', c2'⟩ := B10.cells
            obtain ⟨a', c', w11, hap, hm11⟩ := HA.out w10 s5 _ B10
            replace hap := hd hap
            replace hm11 := hd hm11
            clear B10 HA
            go_wp2_with (at_builtin; refine wpList_append_run rfl _ _ _ rfl _ _ _ _ rfl rfl hap.out ?_; clear hap)
            go_roundg g
            case rel => exact ⟨l ++ [⟨k, n, wrap64 (v : Nat)⟩], a', c', by simp; omega, by simp, by simp, hd ⟨s5, by simpa using hm11.out, hx.out⟩⟩
            case measure => omega
          · rw [if_neg h2, if_neg h2] at hx
            have hv' : ((k : Int) == 2) = false := by simp; omega
            replace h2 := hd h2
            obtain ⟨c0, c1', c2'⟩ := B8.out.cells
            obtain ⟨a', c', w11, hap, hm11⟩ := HA.out w8 s4 _ B8.out
            replace hap := hd hap
            replace hm11 := hd hm11
            clear B8 HA N8
            go_wp2_with (at_builtin; refine wpList_append_run rfl _ _ _ rfl _ _ _ _ rfl rfl hap.out ?_; clear hap)
            go_roundg g
            case rel => exact ⟨l ++ [⟨k, n, 0⟩], a', c', by simp; omega, by simp, by simp, hd ⟨s4, by simpa using hm11.out, hx.out⟩⟩
            case measure => omega
        · replace hst : Stage (wholeS bs) s' (fin l bs s'.nx) := hst.bad' he
          have hwh := hst.bad he
          have k2 := hm.out.1.cells.2.2.1
          have k3 := hm.out.1.cells.2.2.2
          have he0 : (s'.e == 0) = false := by simpa using he
          have he1 : (s'.e != 0) = true := by simpa using he
          have HZ := hd (fun (W : World) (hb : Below w.heap.size w W) => dec_out_nil (decF_bad hn hwh) hb)
          have HY : Hid (∀ n, Below w.heap.size w (wr.drewN n)) := hd (fun n => by rw [hR0.out]; exact HBL.out _ n hm.out.2)
          replace he := hd he
          clear hm hst
          go_upto_region 18 with fail
          go_quiet (fail)
          go_wp2_with fail
          go_ret3
          exact HZ.out _ (HY.out _)
end Go.Proofs.Ytnkanaccacephaa.Doc
