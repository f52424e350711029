/- The reader's labels: the walk. -/
import Derived.Test.YtmjokinagbpihaaDoorQW4
namespace Go.Proofs.YtmjokinagbpihaaDoor
open Go.RowKit

def labI (w : World) (r : Nat) (a : Option Addr) (cap : Nat) (bs : List Nat) (p n : Nat) (wr : World) (a1 : Option Addr) (c1 : Nat) (l : List Nat) (s : St) : Prop :=
  MkI w r a cap bs s wr 65 1 a1 l.length c1 (labC l) ∧ Stage (labP bs p) s (repP (fun acc => numP 8 (labE acc)) (n - l.length) l bs s.nx) ∧ (s.e = 0 → n ≤ 8 ∧ (l = [] ∨ (lbL l).1 = 0))

theorem numS_lt8 {bs : List Nat} {s : St} (hb : Byte bs) : (numS bs 8 s).1 < 18446744073709551616 := by
  unfold numS
  split
  · simp
  · split
    · simp
    · exact sum_lt8 (j := 8) (sumB_lt bs s.nx hb 8) (by omega)

/-- How labels are left. -/
def labOut (w : World) (r : Nat) (a : Option Addr) (cap : Nat) (bs : List Nat) (p : Nat) (a1 : Option Addr) (c1 : Nat) (l : List Nat) (w' : World) : Prop :=
  ∃ s, MkI w r a cap bs s w' 65 1 a1 l.length c1 (labC l) ∧ Stage (labP bs p) s (pure_ l bs s.nx) ∧ l.length ≤ 255

section
variable {w : World} {r : Nat} {a : Option Addr} {cap : Nat} {bs : List Nat} {s : St}
set_option maxRecDepth 100000 in
set_option maxHeartbeats 4000000 in
theorem labels_any (h : RdAt w r a cap bs s) (h0 : s.e = 0 ∧ s.at_ = 0) :
    Calls Tryd.prog 54 #[.pointer (some ⟨r, 0, none⟩)] w fun e w' => ∃ a1 c1 l, e = .returned (.slice a1 (List.length l) c1) ∧ labOut w r a cap bs s.nx a1 c1 l w' := by
  have hc := count_any h 8
  have hlt := numS_lt (s := s) h.byte 1 (by omega)
  have H := hd h
  have HI : Hid (∀ W, ROut w r a cap bs (chkS bs 1 (fun n => cntE 8 n) s).2 W → labI w r a cap bs s.nx (chkS bs 1 (fun n => cntE 8 n) s).1 W none 0 [] (chkS bs 1 (fun n => cntE 8 n) s).2) := hd (by
    intro W o
    refine ⟨⟨o, Row.nil, fun k hk => by cases hk⟩, ?_, fun hz => ⟨?_, .inl rfl⟩⟩
    · exact Stage.chk (g := fun n => repP (fun acc => numP 8 (labE acc)) n []) (.inl ⟨h0.1, h0.2, rfl⟩)
    · have := cnt_len (chk_val hz).2.1
      omega)
  have hn255 : (chkS bs 1 (fun n => cntE 8 n) s).1 ≤ 255 := by
    unfold chkS numS
    split
    · simp
    · split
      · simp
      · have := sumB_lt bs s.nx h.byte 1
        simp only
        omega
  clear h h0 hlt
  generalize (chkS bs 1 (fun n => cntE 8 n) s).1 = n at *
  generalize (chkS bs 1 (fun n => cntE 8 n) s).2 = s1 at *
  generalize s.nx = p at *
  go_enter Tryd.func54, Tryd.ntmps54
  go_upto_block 0 with (go_at_call 57; refine hc.mono ?_; rintro e w1 ⟨rfl, ho⟩)
  have HJ := hd (HI.out _ ho)
  clear HI hc ho
  go_wp2_with fail
  go_loopg [3, 5, 6, 9, 10, 11, 12, 13, 14, 15, 16, 17, 18, 19, 20, 21, 22, 23, 24, 25, 26, 27, 28, 29, 30, 31, 32, 33, 34] n (fun g v3 v5 v6 v9 v10 v11 v12 v13 v14 v15 v16 v17 v18 v19 v20 v21 v22 v23 v24 v25 v26 v27 v28 v29 v30 v31 v32 v33 v34 wr => ∃ (l : List Nat) (len : Nat) (a1 : Option Addr) (c1 : Nat) (s' : St), v3 = .slice a1 len c1 ∧ len + g = n ∧ Hid (l.length = len) ∧ Hid (labI w r a cap bs p n wr a1 c1 l s'))
  case atStart => exact ⟨[], 0, none, 0, s1, rfl, by omega, hd rfl, HJ⟩
  case round =>
    clear HJ
    obtain ⟨l, len, a1, c1, s', rfl, hlen, HL, HW⟩ := hrel
    by_cases h0 : gk = 0
    · subst h0
      have hge : decide ((len : Int) < (n : Int)) = false := by simp; omega
      have hge' : (n : Int) ≤ (len : Int) := by omega
      have HE : Hid (∃ l', Ending.returned (.slice a1 len c1) = .returned (.slice a1 (List.length l') c1) ∧ labOut w r a cap bs p a1 c1 l' wr) := hd (by
        refine ⟨l, by rw [HL.out], s', HW.out.1, ?_, by have := HL.out; omega⟩
        have := HW.out.2.1
        rw [show n - l.length = 0 by have := HL.out; omega] at this
        exact this)
      clear HW HL
      go_wp2_with fail
      go_ret
      obtain ⟨l', h1, h2⟩ := HE.out
      exact ⟨a1, c1, l', h1, h2⟩
    · have hlt : (len : Int) < (n : Int) := by omega
      by_cases hz : s'.e = 0
      · have hf := failed_any HW.out.1.out.1 false (by simp [hz])
        have hnum := rnum_any HW.out.1.out.1 8 ⟨by omega, by omega⟩
        have hu := numS_lt8 (s := s') HW.out.1.out.1.byte
        have HP : Hid (∀ W, ROut wr r a cap bs (numS bs 8 s').2 W → ∃ a' c' w', (∀ ty, (Builtin.append_ #[23, 23] ty #[.slice a1 len c1, .slice (some ⟨W.heap.size, 0, none⟩) 1 1]).run Tryd.prog (W.alloc (.cells #[.int .u64 ((numS bs 8 s').1 : Nat)] 65)) = .ok (.slice a' (len + 1) c') w') ∧ MkI w r a cap bs (numS bs 8 s').2 w' 65 1 a' (len + 1) c' (labC (l ++ [(numS bs 8 s').1]))) := hd (by
          intro W o
          have h1 := HW.out.1.step H.out.lt o
          rw [HL.out] at h1
          obtain ⟨a', c', w', k1, k2⟩ := h1.push H.out Tryd.underlying23 info_u64 rfl (by omega) (by omega) [.int .u64 ((numS bs 8 s').1 : Nat)] rfl (labC_one [(numS bs 8 s').1])
          refine ⟨a', c', w', k1, ?_⟩
          rw [← labC_app]
          exact k2)
        have HN : Hid (∀ (W W2 : World) a' c', MkI w r a cap bs (numS bs 8 s').2 W 65 1 a' (len + 1) c' (labC (l ++ [(numS bs 8 s').1])) → ROut W r a cap bs (failS (numS bs 8 s').2 ((lbL (l ++ [(numS bs 8 s').1])).1 : Nat) (numS bs 8 s').2.fr) W2 → ∃ s'', labI w r a cap bs p n W2 a' c' (l ++ [(numS bs 8 s').1]) s'') := hd (by
          intro W W2 a' c' hm o
          have hg := HW.out.2.2 hz
          have hll := HL.out
          rw [lb_snoc l _ hg.2 (by omega)] at o
          have hst := HW.out.2.1
          rw [show n - l.length = (n - (l.length + 1)) + 1 by omega] at hst
          have h2 := Stage.chk hst
          refine ⟨(chkS bs 8 (labE l) s').2, ?_, ?_, ?_⟩
          · have := hm.step H.out.lt o
            rw [← hll, show l.length + 1 = (l ++ [(numS bs 8 s').1]).length by simp] at this
            exact this
          · rw [show n - (l ++ [(numS bs 8 s').1]).length = n - (l.length + 1) by simp]
            exact h2
          · intro hz2
            refine ⟨hg.1, .inr ?_⟩
            have h3 := (chk_val hz2).2.1
            have h4 := lb_snoc l (numS bs 8 s').1 hg.2 (by omega)
            have h5 : (chkS bs 8 (labE l) s').1 = (numS bs 8 s').1 := rfl
            rw [h5] at h3
            omega)
        clear HW h0 hz
        have HM : Hid (∀ (W : World) a' c', MkI w r a cap bs (numS bs 8 s').2 W 65 1 a' (len + 1) c' (labC (l ++ [(numS bs 8 s').1])) → Calls Tryd.prog 26 #[.slice a' (len + 1 : Nat) c'] W fun e w' => e = .returned (.tuple #[.int .i64 ((lbL (l ++ [(numS bs 8 s').1])).1 : Nat), .int .i64 ((lbL (l ++ [(numS bs 8 s').1])).2 : Nat)]) ∧ ∃ n, w' = W.drewN n) := hd (by
          intro W a' c' hm
          have := tmay_any a' c' (l ++ [(numS bs 8 s').1]) W hm.row.rd
          rw [show (l ++ [(numS bs 8 s').1]).length = len + 1 by simp [HL.out]] at this
          exact this)
        have HLL := HL
        clear HL
        generalize (numS bs 8 s').1 = v at *
        generalize (numS bs 8 s').2 = s2 at *
        generalize (lbL (l ++ [v])).1 = E at *
        generalize (lbL (l ++ [v])).2 = F at *
        go_upto_region 4 with (go_at_call 53; refine hf.mono ?_; rintro e w1 ⟨rfl, rfl⟩)
        go_upto_region 5 with (first | (go_at_call 69; refine hnum.mono ?_; rintro e w2 ⟨rfl, ho⟩; obtain ⟨a', c', w3, hap, hm⟩ := HP.out w2 ho; replace hap := hd hap) | (at_builtin; refine wpList_append_run rfl _ _ _ rfl _ _ _ _ rfl rfl hap.out ?_; clear hap))
        have hmay := HM.out w3 a' c' hm
        have HM3 := hd hm
        clear HM HP hnum hm
        go_upto_region 6 with (go_at_call 26; refine hmay.mono ?_; rintro e w4 ⟨rfl, hw4⟩; replace hw4 := hd hw4)
        have hm4 : MkI w r a cap bs s2 w4 65 1 a' (len + 1) c' (labC (l ++ [v])) := by
          obtain ⟨nn, e4⟩ := hw4.out
          rw [e4]
          exact HM3.out.after (below_draw w3 nn)
        have k1 := hm4.out.1.cells.2.1
        have hfail := fail_any hm4.out.1 (E : Int) s2.fr
        have HM4 := hd hm4
        clear hm4 hw4 HM3 hmay
        go_wp2_with (go_at_call 68; refine hfail.mono ?_; rintro e w5 ⟨rfl, ho5⟩)
        obtain ⟨s'', hI⟩ := HN.out w4 w5 a' c' HM4.out ho5
        go_roundg (gk - 1)
        case rel => exact ⟨l ++ [v], len + 1, a', c', s'', rfl, by omega, hd (by rw [← HLL.out]; simp), hI⟩
        case measure => omega
      · have hf := failed_any HW.out.1.out.1 true (by simp [hz])
        have HE : Hid (∃ l', Ending.returned (.slice a1 len c1) = .returned (.slice a1 (List.length l') c1) ∧ labOut w r a cap bs p a1 c1 l' wr) := hd (by
          refine ⟨l, by rw [HL.out], s', HW.out.1, ?_, by have := HL.out; omega⟩
          exact .inr ⟨hz, HW.out.2.1.bad hz⟩)
        clear HW HL h0 hz
        go_wp2_with (go_at_call 53; refine hf.mono ?_; rintro e w1 ⟨rfl, rfl⟩)
        go_ret
        obtain ⟨l', h1, h2⟩ := HE.out
        exact ⟨a1, c1, l', h1, h2⟩
end
end Go.Proofs.YtmjokinagbpihaaDoor
