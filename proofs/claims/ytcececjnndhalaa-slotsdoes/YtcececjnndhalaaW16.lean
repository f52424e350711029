/- SlotsDoes returns true. -/
import Derived.Test.YtcececjnndhalaaW15
import Derived.Test.YtcececjnndhalaaM2
namespace Go.Proofs.Ytcececjnndhalaa
open Go.RowKit

theorem owner_both (l : List Int) (t : Int) (ht : t < 9223372036854775808) : ∃ v : Int, (∀ W sb lb cp, Sl W sb lb cp l → Calls Try.prog 11 #[.pointer (some ⟨sb, 0, none⟩), .int .i64 t] W fun e w' => e = .returned (.int .i64 v) ∧ ∃ n, w' = W.drewN n) ∧
    (∀ W sb lb cp, Sl W sb lb cp l → Calls Try.prog 12 #[.pointer (some ⟨sb, 0, none⟩), .int .i64 t] W fun e w' => e = .returned (.int .i64 v) ∧ ∃ n, w' = W.drewN n) := by
  by_cases h : t < 0
  · exact ⟨-1, fun W sb _ _ _ => (owner_any_neg sb W t h).mono fun e w' ⟨h1, h2⟩ => ⟨h1, 0, h2⟩, fun W sb _ _ _ => (rowner_any_neg sb W t h).mono fun e w' ⟨h1, h2⟩ => ⟨h1, 0, h2⟩⟩
  · obtain ⟨n, rfl⟩ : ∃ n : Nat, t = n := ⟨t.toNat, by omega⟩
    exact ⟨ownN l n, fun W sb lb cp hS => owner_any sb lb cp l W hS n (by omega), fun W sb lb cp hS => rowner_any sb lb cp l W hS n (by omega)⟩

theorem nth_both (l : List Int) (hp : 0 < l.length) (p f n : Int) (hf : f < 9223372036854775808) (hn : n < 9223372036854775808) : ∃ a b : Int, (∀ W sb lb cp, Sl W sb lb cp l → Calls Try.prog 9 #[.pointer (some ⟨sb, 0, none⟩), .int .i64 p, .int .i64 f, .int .i64 n] W fun e w' => e = .returned (.tuple #[.int .i64 a, .int .i64 b]) ∧ ∃ n, w' = W.drewN n) ∧
    (∀ W sb lb cp, Sl W sb lb cp l → Calls Try.prog 10 #[.pointer (some ⟨sb, 0, none⟩), .int .i64 p, .int .i64 f, .int .i64 n] W fun e w' => e = .returned (.tuple #[.int .i64 a, .int .i64 b]) ∧ ∃ n, w' = W.drewN n) := by
  by_cases h1 : f < 0
  · exact ⟨0, 1, fun W sb _ _ _ => (nth_arg1 sb W p f n h1).mono fun e w' ⟨h1, h2⟩ => ⟨h1, 0, h2⟩, fun W sb _ _ _ => (rnth_arg1 sb W p f n h1).mono fun e w' ⟨h1, h2⟩ => ⟨h1, 0, h2⟩⟩
  · obtain ⟨F, rfl⟩ : ∃ F : Nat, f = F := ⟨f.toNat, by omega⟩
    by_cases h2 : n < 0
    · exact ⟨0, 1, fun W sb _ _ _ => (nth_arg2 sb W p n F h2).mono fun e w' ⟨h1, h2⟩ => ⟨h1, 0, h2⟩, fun W sb _ _ _ => (rnth_arg2 sb W p n F h2).mono fun e w' ⟨h1, h2⟩ => ⟨h1, 0, h2⟩⟩
    · obtain ⟨N, rfl⟩ : ∃ N : Nat, n = N := ⟨n.toNat, by omega⟩
      rcases Nat.eq_zero_or_pos (cnt l p) with hc | hc
      · exact ⟨0, 17, fun W sb lb cp hS => (nth_absent sb lb cp l W hS p F N hc).mono fun e w' ⟨h1, h2⟩ => ⟨h1, 0, h2⟩, fun W sb lb cp hS => rnth_absent sb lb cp l W hS p F N hc⟩
      · obtain ⟨T, hT⟩ := isNth_some hp hc F N
        by_cases hfar : 4611686018427387904 < T
        · refine ⟨0, 2, fun W sb lb cp hS => ?_, fun W sb lb cp hS => ?_⟩
          · have := nth_any sb lb cp l W hS p F N T (by omega) (by omega) hT
            rw [nthR_far hfar] at this; exact this
          · have := rnth_any sb lb cp l W hS p F N T (by omega) (by omega) hT
            rw [nthR_far hfar] at this; exact this
        · refine ⟨T, 0, fun W sb lb cp hS => ?_, fun W sb lb cp hS => ?_⟩
          · have := nth_any sb lb cp l W hS p F N T (by omega) (by omega) hT
            rw [nthR_near (by omega)] at this; exact this
          · have := rnth_any sb lb cp l W hS p F N T (by omega) (by omega) hT
            rw [nthR_near (by omega)] at this; exact this

/-- Questions as they lie in memory: three numbers each. -/
def Asks (w : World) (a : Option Addr) (q : List (Int × Int × Int)) : Prop := ∀ i x, q[i]? = some x → ∃ b off, a = some ⟨b, off, none⟩ ∧ w.cell? ⟨b, off + i * 3, none⟩ = some (.int .i64 x.1) ∧ w.cell? ⟨b, off + i * 3 + 1, none⟩ = some (.int .i64 x.2.1) ∧ w.cell? ⟨b, off + i * 3 + 2, none⟩ = some (.int .i64 x.2.2)

set_option maxRecDepth 100000 in
set_option maxHeartbeats 4000000 in
theorem slotsDoes_walk (ad aq : Option Addr) (cap capq : Nat) (l : List Int) (q : List (Int × Int × Int)) (P : Int) (w : World) (hC : Cells w ad (iCells l)) (hQ : Asks w aq q) (hqlen : q.length ≤ 9223372036854775807)
    (hq : ∀ x ∈ q, x.2.1 < 9223372036854775808 ∧ x.2.2 < 9223372036854775808) :
    Calls Try.prog 3 #[.slice ad l.length cap, .int .i64 P, .slice aq q.length capq] w fun e w' => e = .returned (.bool true) ∧ Below w.heap.size w w' := by
  have hfx := fixed_any w
  by_cases hlong : 1048576 < l.length
  · clear hC hQ hq
    go_enter Try.func3, Try.ntmps3
    go_wp2_with fail
    refine hfx.mono ?_
    rintro e w1 ⟨rfl, hb1⟩
    go_wp2_with fail
    refine (long_yes ad l.length cap w1 hlong).mono ?_
    rintro e w2 ⟨rfl, rfl⟩
    go_wp2
    go_ret
    exact ⟨rfl, hb1⟩
  · have hlen : l.length ≤ 1048576 := by omega
    have hC : Hid (Cells w ad (iCells l)) := hC
    have hQ : Hid (Asks w aq q) := hQ
    have hq : Hid (∀ x ∈ q, x.2.1 < 9223372036854775808 ∧ x.2.2 < 9223372036854775808) := hq
    clear hlong
    rcases new_either l P with ok | ⟨er, k, her, hno⟩
    · have hpos := ok.pos
      have ok : Hid (NewOk l P) := ok
      go_enter Try.func3, Try.ntmps3
      go_wp2_with fail
      refine hfx.mono ?_
      rintro e w1 ⟨rfl, hb1⟩
      go_wp2_with fail
      refine (long_no ad l.length cap w1 hlen).mono ?_
      rintro e w2 ⟨rfl, rfl⟩
      go_wp2_with fail
      refine (made_yes ad cap l P w2 (hC.out.kept hb1) ok.out).mono ?_
      rintro e w3 ⟨sb, lb, cp, sb', lb', cp', rfl, hS, hS', hb3⟩
      have hbw3 : Below w.heap.size w w3 := hb1.trans (hb3.mono hb1.size)
      clear hb1 hb3 hfx hC
      go_wp2_with fail
      go_loopw [11] (fun v11 wr => ∃ i : Nat, i ≤ q.length ∧ v11 = .int .i64 i ∧ Below w3.heap.size w3 wr) (fun v11 _ => q.length - (intOf v11).toNat)
      case atStart => exact ⟨0, Nat.zero_le _, rfl, Below.refl _ _⟩
      case round =>
        obtain ⟨i, hiq, rfl, hbr⟩ := hrel
        have hbwr : Below w.heap.size w wr := hbw3.trans (hbr.mono hbw3.size)
        by_cases hlt : i < q.length
        · have hlt' : (i : Int) < (q.length : Int) := by omega
          obtain ⟨b, off, rfl, h0, h1, h2⟩ := hQ.out i _ (List.getElem?_eq_getElem hlt)
          have hqb := hq.out _ (List.getElem_mem hlt)
          have k0 := (hbwr.cell (World.block_lt_of_cell? w _ h0)).trans h0
          have k1 := (hbwr.cell (World.block_lt_of_cell? w _ h1)).trans h1
          have k2 := (hbwr.cell (World.block_lt_of_cell? w _ h2)).trans h2
          clear h0 h1 h2 hQ hq
          generalize q[i] = x at *
          obtain ⟨p, f, n⟩ := x
          obtain ⟨hf9, hn9⟩ := hqb
          simp only at k0 k1 k2 hf9 hn9
          obtain ⟨na, nb, hN1, hN2⟩ := nth_both l hpos p f n hf9 hn9
          obtain ⟨vo, hO1, hO2⟩ := owner_both l f hf9
          obtain ⟨G, hG⟩ := isGap_some (l := l) p hpos
          have hG : Hid (IsGap l p G) := hG
          go_wp2_with fail
          obtain ⟨wa, hwa⟩ : ∃ W, Hid (W = wr.alloc (.cells #[.int .i64 p, .int .i64 f, .int .i64 n] 31)) := ⟨_, rfl⟩
          obtain ⟨xb, hxb⟩ : ∃ b, Hid (b = wr.heap.size) := ⟨_, rfl⟩
          rw [← hwa.out, ← hxb.out]
          have hba : Below w3.heap.size w3 wa := by rw [hwa.out]; exact hbr.alloc hbr.size _
          have x0 : wa.cell? ⟨xb, 0, none⟩ = some (.int .i64 p) := by rw [hwa.out, hxb.out]; simp
          have x1 : wa.cell? ⟨xb, 1, none⟩ = some (.int .i64 f) := by rw [hwa.out, hxb.out]; simp
          have x2 : wa.cell? ⟨xb, 2, none⟩ = some (.int .i64 n) := by rw [hwa.out, hxb.out]; simp
          have hSa := hS.kept hba
          have hSa' := hS'.kept hba
          clear hwa hxb k0 k1 k2 hbr hbwr
          refine (hN1 wa sb lb cp hSa).mono ?_
          rintro e w5 ⟨rfl, n5, rfl⟩
          go_wp2_with fail
          refine (hN2 (wa.drewN n5) sb' lb' cp' (hSa'.drewN n5)).mono ?_
          rintro e w6 ⟨rfl, n6, rfl⟩
          go_wp2_with fail
          obtain ⟨wq, hwq⟩ : ∃ W, Hid (W = wa.drewN (n5 + n6)) := ⟨_, rfl⟩
          rw [← hwq.out]
          have y0 : wq.cell? ⟨xb, 0, none⟩ = some (.int .i64 p) := by rw [hwq.out]; exact x0
          have y1 : wq.cell? ⟨xb, 1, none⟩ = some (.int .i64 f) := by rw [hwq.out]; exact x1
          have y2 : wq.cell? ⟨xb, 2, none⟩ = some (.int .i64 n) := by rw [hwq.out]; exact x2
          have hbq : Below w3.heap.size w3 wq := by rw [hwq.out]; exact below_drewN hba _
          have hSq : Sl wq sb lb cp l := by rw [hwq.out]; exact hSa.drewN _
          have hSq' : Sl wq sb' lb' cp' l := by rw [hwq.out]; exact hSa'.drewN _
          have q1 := fun m => hO1 (wq.drewN m) sb lb cp (hSq.drewN m)
          have q2 := fun m => hO2 (wq.drewN m) sb' lb' cp' (hSq'.drewN m)
          have q3 := fun m => gap_any sb lb cp l (wq.drewN m) (hSq.drewN m) p G hG.out
          have q4 := fun m => rgap_any sb' lb' cp' l (wq.drewN m) (hSq'.drewN m) p G hG.out
          have q5 := fun m => count_any sb lb cp l (wq.drewN m) (hSq.drewN m) p f n hf9 hn9
          have q6 := fun m => rcount_any sb' lb' cp' l (wq.drewN m) (hSq'.drewN m) p f n hf9 hn9
          have q7 := fun m => len_any sb lb cp l (wq.drewN m) (hSq.drewN m)
          generalize countN l p f n = c at *
          clear hwq hba x0 x1 x2 hSa hSa' hN1 hN2 hO1 hO2 hS hS'
          go_quiet (first | with_reducible exact Calls.quiet_of (q1 _) | with_reducible exact Calls.quiet_of (q2 _) | with_reducible exact Calls.quiet_of (q3 _) | with_reducible exact Calls.quiet_of (q4 _) | with_reducible exact Calls.quiet_of (q5 _) | with_reducible exact Calls.quiet_of (q6 _) | with_reducible exact Calls.quiet_of_same (q7 _))
          go_wp2_with fail
          exact ⟨⟨i + 1, by omega, by go_num, below_drewN hbq _⟩, by simp [intOf]; omega⟩
        · have hltd : decide ((i : Int) < (q.length : Int)) = false := by simp; omega
          have hge : (q.length : Int) ≤ (i : Int) := by omega
          go_wp2
          go_ret
          exact ⟨rfl, hbwr⟩
    · go_enter Try.func3, Try.ntmps3
      go_wp2_with fail
      refine hfx.mono ?_
      rintro e w1 ⟨rfl, hb1⟩
      go_wp2_with fail
      refine (long_no ad l.length cap w1 hlen).mono ?_
      rintro e w2 ⟨rfl, rfl⟩
      go_wp2_with fail
      refine (made_no ad cap l P w2 (hC.out.kept hb1) hlen er k hno).mono ?_
      rintro e w3 ⟨rfl, hb3⟩
      go_wp2
      go_ret
      exact ⟨rfl, hb1.trans (hb3.mono hb1.size)⟩
end Go.Proofs.Ytcececjnndhalaa
