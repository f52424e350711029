/- Set, Clear. -/
import Derived.Test.YtdpbkoohhnpjmaaWWG
namespace Go.Proofs.Ytdpbkoohhnpjmaa
open Go.RowKit Go.Sort Go.Shelf Go.Maps

/-- The wheel's map changed, its order as it was. -/
theorem WhAt.hpMap {w w2 : World} {b m : Nat} {a : Option Addr} {c : Nat} {L O : List Th} (h : WhAt w b m a c L O) (hm : Mod (fun k => k = m) w w2) : HpAt w2 b m a c O :=
  h.hp.mod hm (fun e => h.mb e.symm) (fun k hk e => h.ma (by rw [← e]; exact hk))

theorem set_wrong {w : World} {b : Nat} {F : Nat → Prop} {L : List Th} (h : Wh w b F L) {id due : Int} (hbad : id < 0 ∨ due < 0) :
    Calls Try.prog 13 #[.pointer (some ⟨b, 0, none⟩), .int .i64 id, .int .i64 due] w fun e w' => e = .returned (.int .i64 1) ∧ WhOut w b F L w' := by
  have HH := hd h
  clear h
  by_cases h1 : id < 0
  · clear hbad
    go_enter Try.func13, Try.ntmps13
    go_wp2
    go_ret
    exact ⟨rfl, WhOut.same HH.out (below_same w)⟩
  · have h2 : due < 0 := by omega
    have h1' : decide (id < 0) = false := by simpa using h1
    clear hbad h1
    go_enter Try.func13, Try.ntmps13
    go_wp2
    go_ret
    exact ⟨rfl, WhOut.same HH.out (below_same w)⟩

set_option maxRecDepth 100000 in
set_option maxHeartbeats 2000000 in
theorem set_right {w : World} {b : Nat} {F : Nat → Prop} {L : List Th} (h : Wh w b F L) {id due : Int} (hf : FitT (due, id)) (hL : L.length < 4398046511104) :
    Calls Try.prog 13 #[.pointer (some ⟨b, 0, none⟩), .int .i64 id, .int .i64 due] w fun e w' => e = .returned (.int .i64 0) ∧ WhOut w b F (setA id due L) w' := by
  have i0 : decide (id < 0) = false := by simpa using hf.2.1
  have i1 : decide (due < 0) = false := by simpa using hf.1.1
  have i2 : 0 ≤ id := hf.2.1
  have i3 : 0 ≤ due := hf.1.1
  obtain ⟨m, a, c, O, h, hfst, hlen, hF, -⟩ := h
  have HW := hd h
  have HFI := hd hf
  have hlenO : O.length < 8796093022208 := by omega
  have hlenL : (setA id due L).length ≤ 4398046511104 := by rw [set_len h.good]; split <;> omega
  clear h hf
  go_enter Try.func13, Try.ntmps13
  go_upto_region 4 with fail
  obtain ⟨w1, hw1⟩ : ∃ W, Hid (w.alloc (.cells #[.int .i64 due, .int .i64 id] 60) = W) := ⟨_, rfl⟩
  have hB1 : Below w.heap.size w w1 := by rw [← hw1.out]; exact below_al w _
  have x0 : w1.cell? ⟨w.heap.size, 0, none⟩ = some (.int .i64 due) := by rw [← hw1.out]; simp
  have x1 : w1.cell? ⟨w.heap.size, 1, none⟩ = some (.int .i64 id) := by rw [← hw1.out]; simp
  have hne : w.heap.size < w1.heap.size := by rw [← hw1.out]; simp
  rw [hw1.out]
  have hW1 := (HW.out.below hB1).below ((Below.refl _ w1).drew)
  have c0 : w1.cell? ⟨b, 0, none⟩ = some (.map (some m)) := hW1.hp.c0
  obtain ⟨D, m1, m2⟩ := hW1.map
  obtain ⟨w2, hrun, o2, t2⟩ := m1.store lawInt Try.underlying52 (by unfold maxLen; omega) (key_int (x := id) ⟨by omega, HFI.out.2.2⟩) (thElem_mk (due, id))
  have hrun : (Instr.mapUpdate 52 (.map (some m)) (.int .i64 id) (.agg #[.int .i64 due, .int .i64 id])).run Try.prog w1.drew = .ok () w2 := hrun
  have hM2 : Mod (fun k => k = m) w1.drew w2 := (mod_grown t2.grown).mono (fun k _ e => (Option.some.inj e).symm)
  have hp2 := hW1.hpMap hM2
  have o2' := owns_tight o2
  have m2' := m2.put hW1.good id due
  rw [m2'.size] at o2'
  have hG : w.heap.size ≠ m := by have := HW.out.mlt; omega
  have y0 : w2.cell? ⟨w.heap.size, 0, none⟩ = some (.int .i64 due) := (hM2.cell (p := ⟨w.heap.size, 0, none⟩) hne hG).trans x0
  have y1 : w2.cell? ⟨w.heap.size, 1, none⟩ = some (.int .i64 id) := (hM2.cell (p := ⟨w.heap.size, 1, none⟩) hne hG).trans x1
  have d0 : w2.cell? ⟨b, 0, none⟩ = some (.map (some m)) := hp2.c0
  have hpu := fun W (hb : Below w2.heap.size w2 W) => hpush_any (hp2.below hb) rfl hlenO HW.out.heap (due, id)
  have HM2 : Hid (Mod (wfp b m a) w w2) := hd (((Mod.of_below _ hB1).after ((Below.refl _ w1).drew)).trans hM2 (fun k hk => .inl (.inr (.inl hk))))
  have HO2 := hd o2'
  have HD2 := hd m2'
  have hsz2 : Hid (w.heap.size ≤ w2.heap.size) := hd (Nat.le_trans hB1.size hM2.size)
  clear o2 t2 hM2 o2' m2' m1 m2 hp2 hW1 hB1 hw1
  simp only at hpu
  go_region
  go_upto_region 5 with fail
  have hpd := hpu w2.drew ((Below.refl _ w2).drew)
  obtain ⟨G, hGn⟩ : ∃ G, Hid (w.heap.size = G) := ⟨_, rfl⟩
  rw [hGn.out] at y0 y1 ⊢
  have HKB : Hid (∀ (w3 : World) a' c' O', HpTo w2.drew b m a w3 a' c' O' → w3.cell? ⟨G, 0, none⟩ = some (.int .i64 due) ∧ w3.cell? ⟨G, 1, none⟩ = some (.int .i64 id)) := hd (fun w3 a' c' O' hT => by
    have hl : G < w2.drew.heap.size := World.block_lt_of_cell? w2 _ y0
    have hn : ¬ (G = b ∨ blk a = some G) := fun e => by
      rw [← hGn.out] at e
      rcases e with e | e
      · have := HW.out.hp.blt; omega
      · have := HW.out.hp.lt _ e; omega
    exact ⟨(hT.mod.cell (p := ⟨G, 0, none⟩) hl hn).trans y0, (hT.mod.cell (p := ⟨G, 1, none⟩) hl hn).trans y1⟩)
  have HAT : Hid (∀ (w3 : World) a' c' O', HpTo w2.drew b m a w3 a' c' O' → Heap (tAt O') (O.length + 1) → O'.length = O.length + 1 → (∀ x, x ∈ O' ↔ x ∈ O ∨ x = (due, id)) → WhAt w3 b m a' c' (setA id due L) O' ∧ Mod (wfp b m a) w w3 ∧ ∀ k, blk a' = some k → blk a = some k ∨ w.heap.size ≤ k) := hd (fun w3 a' c' O' hT h1 h2 h3 => by
    have hmk := HO2.out
    have hml : m < w2.drew.heap.size := hmk.lt
    have hmn : ¬ (m = b ∨ blk a = some m) := fun e => by
      rcases e with e | e
      · exact HW.out.mb e
      · exact HW.out.ma e
    refine ⟨⟨hT.hp, ⟨_, owns_kept hmk (hT.mod.block m hml hmn), HD2.out⟩, HW.out.mb, fun e => ?_, HW.out.good.set HFI.out, by rw [h2]; exact h1, fun x hx => ?_, fun x hx => ?_⟩, (HM2.out.after ((Below.refl _ w2).drew)).trans hT.mod (fun k hk => .inl ?_), fun k hk => ?_⟩
    · rcases hT.new m e with h | h
      · exact HW.out.ma h
      · omega
    · rw [h3]
      unfold setA at hx
      rcases List.mem_append.1 hx with h | h
      · exact .inl (HW.out.all x (clr_mem.1 h).1)
      · exact .inr (by simpa using h)
    · rcases (h3 x).1 hx with h | h
      · exact HW.out.fit x h
      · rw [h]; exact HFI.out
    · rcases hk with h | h
      · exact .inl h
      · exact .inr (.inr h)
    · rcases hT.new k hk with h | h
      · exact .inl h
      · exact .inr (Nat.le_trans hsz2.out h))
  clear hpu hrun c0 x0 x1 HO2 HD2 HM2 hG hsz2 d0
  go_region_held3 (fun w' => w'.cell? ⟨G, 0, none⟩ = some (.int .i64 due) ∧ w'.cell? ⟨G, 1, none⟩ = some (.int .i64 id)) (go_keep)
    (first
      | (go_at_call 25; refine hpd.mono ?_; rintro e3 w3 ⟨rfl, a3, c3, O3, hT, h1, h2, h3⟩
         obtain ⟨k0, k1⟩ := HKB.out w3 a3 c3 O3 hT
         obtain ⟨hW3, hM3, hN3⟩ := HAT.out w3 a3 c3 O3 hT h1 h2 h3
         clear hT h1 h2 h3))
  have htd := tidy_any hW3 hlenL
  have HM3 := hd hM3
  have HN3 := hd hN3
  have HSZ := hd hM3.size
  clear hM3 hN3 hW3 HKB HAT hpd
  go_wp2_with (first | (go_at_call 23; refine htd.mono ?_; rintro e4 w4 ⟨rfl, a4, c4, O4, hW4, h5, h6⟩))
  go_ret
  refine ⟨rfl, WhOut.mk' hF (HM3.out.trans hW4.mod (fun k hk => ?_)) hW4.at' h5 h6 (fun k hk => ?_)⟩
  · rcases hk with h | h
    · exact .inl (.inl h)
    · rcases HN3.out k h with h' | h'
      · exact .inl (.inr (.inr h'))
      · exact .inr h'
  · rcases hW4.new k hk with h | h
    · exact HN3.out k h
    · exact .inr (Nat.le_trans HSZ.out h)

set_option maxRecDepth 100000 in
set_option maxHeartbeats 2000000 in
theorem clear_any {w : World} {b : Nat} {F : Nat → Prop} {L : List Th} (h : Wh w b F L) {id : Int} (hf : Fit64 id) (hL : L.length ≤ 4398046511104) :
    Calls Try.prog 14 #[.pointer (some ⟨b, 0, none⟩), .int .i64 id] w fun e w' => e = .returned (.bool (isSet id L)) ∧ WhOut w b F (clr id L) w' := by
  obtain ⟨m, a, c, O, h, hfst, hlen, hF, -⟩ := h
  have c0 := h.hp.c0
  have hlk : ∃ n1 n2, (Instr.lookup 52 (.map (some m)) (.int .i64 id) true).run Try.prog w = .ok (.tuple #[.agg #[.int .i64 n1, .int .i64 n2], .bool (isSet id L)]) w := by
    cases hs : isSet id L with
    | true =>
      obtain ⟨t, ht, rfl⟩ := isSet_iff.1 hs
      exact ⟨_, _, h.lookIn ht w (below_same w)⟩
    | false => exact ⟨_, _, h.lookOut hf hs w (below_same w)⟩
  obtain ⟨n1, n2, hlk⟩ := hlk
  have hlc : (clr id L).length ≤ L.length := List.length_filter_le _ _
  have HW := hd h
  have HK := hd (key_int hf)
  generalize isSet id L = B at *
  clear h hf
  go_enter Try.func14, Try.ntmps14
  go_upto_region 2 with fail
  obtain ⟨w1, hw1⟩ : ∃ W, Hid (w.alloc (.cells #[.int .i64 n1, .int .i64 n2] 60) = W) := ⟨_, rfl⟩
  have hB1 : Below w.heap.size w w1 := by rw [← hw1.out]; exact below_al w _
  rw [hw1.out]
  have hW1 := HW.out.below hB1
  have c1 : w1.cell? ⟨b, 0, none⟩ = some (.map (some m)) := hW1.hp.c0
  obtain ⟨D, m1, m2⟩ := hW1.map
  have hdr : ∃ w2, (∀ ty, (Builtin.delete_ #[52, 3] ty #[.map (some m), .int .i64 id]).run Try.prog w1 = .ok (.tuple #[]) w2) ∧ WhAt w2 b m a c (clr id L) O ∧ Mod (fun k => k = m) w1 w2 := by
    obtain ⟨w2, hrun, o2, t2⟩ := m1.drop lawInt Try.underlying52 HK.out 0
    have hM2 : Mod (fun k => k = m) w1 w2 := (mod_grown t2.grown).mono (fun k _ e => (Option.some.inj e).symm)
    have o2' := owns_tight o2
    have m2' := m2.del hW1.good id
    rw [m2'.size] at o2'
    exact ⟨w2, fun ty => hrun, ⟨hW1.hpMap hM2, ⟨_, o2', m2'⟩, hW1.mb, hW1.ma, hW1.good.clr id, hW1.heap, fun t ht => hW1.all t (clr_mem.1 ht).1, hW1.fit⟩, hM2⟩
  obtain ⟨w2, hrun, hW2, hM2⟩ := hdr
  have htd := tidy_any hW2 (by omega)
  have HM2 : Hid (Mod (wfp b m a) w w2) := hd ((Mod.of_below _ hB1).trans hM2 (fun k hk => .inl (.inr (.inl hk))))
  clear hW2 hM2 m1 m2 hW1 hB1 hw1
  go_wp2_with (first | (go_at_call 23; refine htd.mono ?_; rintro e4 w4 ⟨rfl, a4, c4, O4, hW4, h5, h6⟩))
  go_ret
  refine ⟨rfl, WhOut.mk' hF (HM2.out.trans hW4.mod (fun k hk => .inl ?_)) hW4.at' h5 h6 (fun k hk => ?_)⟩
  · rcases hk with h | h
    · exact .inl h
    · exact .inr (.inr h)
  · rcases hW4.new k hk with h | h
    · exact .inl h
    · exact .inr (Nat.le_trans HM2.out.size h)
end Go.Proofs.Ytdpbkoohhnpjmaa
