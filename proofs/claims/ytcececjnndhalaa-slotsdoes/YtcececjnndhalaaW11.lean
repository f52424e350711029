/- SlotsAll returns true. -/
import Derived.Test.YtcececjnndhalaaW10
import Derived.Laws.AppendOwnNone
namespace Go.Proofs.Ytcececjnndhalaa
open Go.RowKit

/-- 'append' onto a row of the call's own, whatever the shape of what is appended. -/
theorem wpList_append_any {P : Program} (w : World) {ops : Array Oper} {rest : List Oper} {o : Oper} {a : Act} {Q : Exit → Act → World → Prop} (hgd : o.guard = none) (s x : Operand) (t : TypeId)
    (ho : o.op = .call { callee := .builtin .append, args := #[s, x], argTypes := #[t, t] })
    (base : Nat) (e : TypeId) (i : TypeInfo) (z : Value) (size bytes : Nat) (ht : P.underlying t = some (.slice e)) (hi : P.info? e = some i) (hz : i.zero = some z)
    (hsize : i.size = size) (hby : i.bytes = bytes) (hzs : z.cells.size = size) (hsz : 0 < size)
    (v : Value) (n : Nat) (xs : List Value) (hs : a.eval s = v) (hown : w.ownsRow base e size v n xs)
    (ao : Option Addr) (m c : Nat) (news : List Value) (hx : a.eval x = .slice ao m c) (hl : news.length = m * size) (hnone : ao = none → m = 0 ∧ c = 0) (hnews : ∀ ad, ao = some ad → ∀ j u, news[j]? = some u → w.cell? (ad.add j) = some u) (h1 : ∀ u ∈ news, u.oneCell' = true)
    (h63 : n + m ≤ maxLen) (hbytes : (n + m) * bytes ≤ 140737488355328) (hbase : base ≤ w.heap.size)
    (h : ∀ v' w', w'.ownsRow base e size v' (n + m) (xs ++ news) → w.grownBy w' v.ownBlock → wpList P ops Q rest (a.put o.dst v') w') : wpList P ops Q (o :: rest) a w := by
  cases ao with
  | some ad => exact wpList_append_own w hgd s x t ho base e i z size bytes ht hi hz hsize hby hzs hsz v n xs hs hown ad m c news hx hl (hnews ad rfl) h1 h63 hbytes hbase (fun v' w' h2 h3 _ => h v' w' h2 h3)
  | none =>
    obtain ⟨rfl, rfl⟩ := hnone rfl
    have hn : news = [] := List.eq_nil_of_length_eq_zero (by simpa using hl)
    subst hn
    exact wpList_append_own_none hgd s x t ho base e i size ht hi v n xs hs hown hx (h v w (by simpa using hown) (World.grownBy.refl _ _))

theorem cells_any {w w' : World} {a : Option Addr} {vs : List Value} (h : Cells w a vs) (hb : Below w.heap.size w w') : ∀ ad, a = some ad → ∀ j u, vs[j]? = some u → w'.cell? (ad.add j) = some u := by
  intro ad e
  subst e
  exact cells_src h hb

theorem cells_none {w : World} {l : List Int} (h : Cells w none (iCells l)) : l.length = 0 := by
  cases l with
  | nil => rfl
  | cons x r => obtain ⟨b, off, h, _⟩ := h (iCells_ne _ 0 (by simp)); cases h

/-- What the copy of a table is, in the call's own memory. -/
theorem copy_owns {w1 w2 : World} {v : Value} {l : List Int} {n : Nat} (ho : w2.ownsRow w1.heap.size 3 1 v n (iCells l)) : ∃ a cap, v = .slice a n cap ∧ Cells w2 a (iCells l) := by
  obtain ⟨a, cap, e, hc, _, _⟩ := cells_of_owns ho
  exact ⟨a, cap, e, hc⟩

theorem count_split (l : List Int) (p a b c : Int) (hp : 0 < l.length) (h1 : a ≤ b) (h2 : b ≤ c) : countN l p a c = countN l p a b + countN l p b c := by
  have := ahead_mono l p hp a.toNat b.toNat (by omega)
  have := ahead_mono l p hp b.toNat c.toNat (by omega)
  unfold countN
  omega

theorem count_fits (l : List Int) (p a b : Int) (hp : 0 < l.length) : countN l p a b ≤ b.toNat := by
  have := ahead_le l p hp b.toNat
  unfold countN
  omega

set_option maxRecDepth 100000 in
set_option maxHeartbeats 1000000 in
theorem slotsAll_walk (ad : Option Addr) (cap : Nat) (l : List Int) (P a b c : Int) (w : World) (hC : Cells w ad (iCells l)) (hnone : ad = none → cap = 0)
    (ha : a < 9223372036854775808) (hb : b < 9223372036854775808) (hcc : c < 9223372036854775808) (ha' : -9223372036854775808 ≤ a) :
    Calls Try.prog 5 #[.slice ad l.length cap, .int .i64 P, .int .i64 a, .int .i64 b, .int .i64 c] w fun e w' => e = .returned (.bool true) ∧ Below w.heap.size w w' := by
  have hfx := fixed_any w
  by_cases hlong : 1048576 < l.length
  · clear hC
    go_enter Try.func5, Try.ntmps5
    go_wp2_with fail
    refine hfx.mono ?_
    rintro e w1 ⟨rfl, hb1⟩
    go_wp2_with fail
    refine (long_yes ad l.length cap w1 hlong).mono ?_
    rintro e w2 ⟨rfl, rfl⟩
    go_wp2
    go_ret
    exact ⟨rfl, hb1⟩
  · obtain ⟨i0, hi, hz0, hz1, hz2⟩ := info_parts info3
    have hlen : l.length ≤ 1048576 := by omega
    have hll : Hid ((iCells l).length = l.length) := iCells_len l
    have hn0 : ad = none → l.length = 0 ∧ cap = 0 := fun e => ⟨cells_none (w := w) (by rw [← e]; exact hC), hnone e⟩
    have hC0 : Hid (Cells w ad (iCells l)) := hC
    clear hC hnone hlong
    go_enter Try.func5, Try.ntmps5
    go_wp2_with fail
    refine hfx.mono ?_
    rintro e w1 ⟨rfl, hb1⟩
    go_wp2_with fail
    refine (long_no ad l.length cap w1 hlen).mono ?_
    rintro e w2 ⟨rfl, rfl⟩
    have hbw := hb1.alloc hb1.size
    go_wp2_with (first | (at_builtin; refine wpList_append_any _ rfl _ _ 22 rfl w2.heap.size 3 i0 (.int .i64 0) 1 8 Try.underlying22 hi hz0 hz1 hz2 rfl (by decide) _ _ _ rfl (World.ownsRow_made w2 #[] 0 (Nat.le_refl _) (Nat.zero_le _) (by simp)) ad l.length cap (iCells l) rfl (by rw [hll.out, Nat.mul_one]) hn0 (cells_any hC0.out (hbw _)) (iCells_one l) (by unfold maxLen; omega) (by omega) (by simp) ?_; intro v' w3 hown hgrow; obtain ⟨a4, cap4, rfl, hC4⟩ := copy_owns (n := l.length) (l := l) (by simpa using hown)) | fail)
    have hb3 : Below w.heap.size w w3 := by
      refine (hbw _).grown hgrow ?_ ?_
      · have := hb1.size; simp; omega
      · intro k hk
        cases hk
        exact hb1.size
    clear hgrow hown hbw hb1 hC0 hll hn0
    rcases new_either l P with ok | ⟨er, k, her, hno⟩
    · have hnew := new_yes a4 cap4 l P w3 hC4 ok
      have hP1 := ok.lo
      have hP8 := ok.hi
      have hpos := ok.pos
      have htot : Hid (∀ t, tot l t P.toNat = t) := fun t => tot_all l P.toNat hpos (fun i hi => by
        have := ok.ent i hi
        unfold okEnt at this
        omega) t
      clear ok
      refine hnew.mono ?_
      rintro e w4 ⟨sb, lb, cp, rfl, hS, hb4, _, _⟩
      have hb5 : Below w.heap.size w w4 := hb3.trans (hb4.mono hb3.size)
      clear hb3 hb4 hnew hC4 hfx
      by_cases hab : b < a
      · go_wp2
        go_ret
        exact ⟨rfl, hb5⟩
      · have hab' : a ≤ b := by omega
        have habd : decide (b < a) = false := by simp; omega
        by_cases hbc : c < b
        · go_wp2
          go_ret
          exact ⟨rfl, hb5⟩
        · have hbc' : b ≤ c := by omega
          have hbcd : decide (c < b) = false := by simp; omega
          have hct := fun n p a b ha hb => count_any sb lb cp l (w4.drewN n) (hS.drewN n) p a b ha hb
          obtain ⟨Q, rfl⟩ : ∃ Q : Nat, P = (Q : Int) := ⟨P.toNat, by omega⟩
          obtain ⟨a0, hea⟩ : ∃ a0 : Nat, Hid (a0 = a.toNat) := ⟨_, rfl⟩
          obtain ⟨c0, hec⟩ : ∃ c0 : Nat, Hid (c0 = c.toNat) := ⟨_, rfl⟩
          have hc0 : c0 < 9223372036854775808 := by rw [hec.out]; omega
          rw [Int.toNat_natCast] at htot
          have h1 : Hid (∀ k : Nat, countN l k a c = countN l k a b + countN l k b c) := fun k => count_split l k a b c hpos hab' hbc'
          have h2 : Hid (∀ k : Nat, countN l k a c + ahead l k a0 = ahead l k c0) := fun k => by
            rw [hea.out, hec.out]
            have := ahead_mono l k hpos a.toNat c.toNat (by omega)
            unfold countN
            omega
          have hfit : ∀ k : Nat, k ≤ Q → tot l c0 k ≤ c0 := fun k hk => by
            have hm : ∀ d k : Nat, tot l c0 k ≤ tot l c0 (k + d) := fun d => by
              induction d with
              | zero => intro k; exact Nat.le_refl _
              | succ d ih => intro k; have := ih k; rw [← Nat.add_assoc]; simp only [tot]; omega
            have := hm (Q - k) k
            rw [show k + (Q - k) = Q by omega, htot.out] at this
            exact this
          have hfit : Hid _ := hfit
          have hpc : Hid (∀ k : Nat, countN l k a b ≤ c0 ∧ countN l k b c ≤ c0 ∧ countN l k a c ≤ c0) := fun k => by
            have x1 := count_fits l k a b hpos
            have x2 := count_fits l k b c hpos
            have x3 := count_fits l k a c hpos
            rw [hec.out]
            omega
          go_wp2_with fail
          go_loopw [15, 16] (fun s i wr => ∃ A k n : Nat, k ≤ Q ∧ A ≤ c0 ∧ s = .int .i64 A ∧ i = .int .i64 k ∧ Hid (A + tot l a0 k = tot l c0 k) ∧ wr = w4.drewN n) (fun _ i _ => Q - (intOf i).toNat)
          case atStart => exact ⟨0, 0, 0, by omega, Nat.zero_le _, rfl, rfl, rfl, rfl⟩
          case round =>
            obtain ⟨A, k, n, hk, hA, rfl, rfl, hinv, rfl⟩ := hrel
            by_cases hlt : k < Q
            · have e1 := h1.out k
              have e2 := h2.out k
              have hf := hfit.out (k + 1) (by omega)
              have hin := hinv.out
              have c1 := hct n k a c ha hcc
              have c2 := fun m => hct m k a b ha hb
              have c3 := fun m => hct m k b c hb hcc
              have hp3 := hpc.out k
              simp only [tot] at hf
              have H : Hid (A + countN l k a c + tot l a0 (k + 1) = tot l c0 (k + 1)) := by
                show _ = _
                simp only [tot]
                omega
              have hA' : A + countN l k a c ≤ c0 := by omega
              clear e2 hf hin hinv
              generalize countN l k a c = x at *
              generalize countN l k a b = y at *
              generalize countN l k b c = z at *
              have t1 : ((x : Int) == (y : Int) + (z : Int)) = true := by rw [beq_iff_eq]; omega
              have t2 : ((x : Int) != (y : Int) + (z : Int)) = false := by simp; omega
              have hlt' : (k : Int) < (Q : Int) := by omega
              obtain ⟨hp31, hp32, hp33⟩ := hp3
              have hyz : y + z ≤ c0 := by omega
              clear e1
              go_wp2_with fail
              refine c1.mono ?_
              rintro e w5 ⟨rfl, n5, rfl⟩
              rw [World.drewN_drewN]
              go_wp2_with fail
              refine (c2 _).mono ?_
              rintro e w6 ⟨rfl, n6, rfl⟩
              rw [World.drewN_drewN]
              go_wp2_with fail
              refine (c3 _).mono ?_
              rintro e w7 ⟨rfl, n7, rfl⟩
              rw [World.drewN_drewN]
              go_wp2
              exact ⟨⟨A + x, k + 1, _, by omega, by omega, by go_num, by go_num, H, rfl⟩, by simp [intOf]; omega⟩
            · have hin := hinv.out
              have ek : k = Q := by omega
              rw [ek, htot.out, htot.out] at hin
              have hin : Hid (A + a.toNat = c.toNat) := by rw [← hea.out, ← hec.out]; exact hin
              have hltd : decide ((k : Int) < Q) = false := by simp; omega
              have hge : (Q : Int) ≤ (k : Int) := by omega
              clear ek hinv hea hec
              go_wp2_with fail
              all_goals
                go_ret
                exact ⟨ret_bool (by rw [beq_iff_eq]; have := hin.out; omega), below_drewN hb5 _⟩
    · have hnew := new_no a4 cap4 l P w3 hC4 er k hno
      have t1 : ((er : Int) == 0) = false := by rw [beq_eq_false_iff_ne]; omega
      have t2 : ((er : Int) != 0) = true := by simp; omega
      refine hnew.mono ?_
      rintro e w4 ⟨rfl, rfl⟩
      go_wp2
      go_ret
      exact ⟨rfl, hb3⟩
end Go.Proofs.Ytcececjnndhalaa
