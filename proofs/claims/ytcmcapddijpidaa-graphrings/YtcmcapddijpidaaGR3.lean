/- Ring, the document's. -/
import Derived.Test.YtcmcapddijpidaaGR2
namespace Go.Proofs.Ytcmcapddijpidaa
open Go.RowKit Go.Maps Go.Sort

theorem ranges_kept {W W' : World} {R : Value → Option (DataW Unit × List MemPlace)} {T : TypeId} {b r n : Nat} {D : DataW Unit} {left : Lit → Bool} {cnt : Nat} (h : W.ranges Try.prog T R b r n D left cnt) (e1 : W'.heap[b]? = W.heap[b]?) (e2 : W'.heap[r]? = W.heap[r]?) : W'.ranges Try.prog T R b r n D left cnt := by
  unfold World.ranges at *
  rw [e1, e2]
  exact h
theorem Own.push2 {w wr : World} {a : Option Addr} {c : Nat} {l : List Int} (h : Own w wr a c l) (hl : l.length < 1000000000) (v : Int) :
    ∃ a' c' w', (∀ ty, (Builtin.append_ #[25, 25] ty #[.slice a l.length c, .slice (some ⟨wr.heap.size, 0, none⟩) 1 1]).run Try.prog (wr.alloc (.cells #[.int .i64 v] 3)) = .ok (.slice a' (l.length + 1) c') w') ∧ Own w w' a' c' (l ++ [v]) ∧ Mod (fun k => blk a = some k) wr w' ∧ ∀ k, blk a' = some k → blk a = some k ∨ wr.heap.size ≤ k := by
  obtain ⟨a', c', w', m1, m2, m3, m4⟩ := push_any (T := 25) Try.underlying25 infoN rfl h.row (by unfold maxLen; omega) (by omega) [.int .i64 v] rfl (by simp [Value.oneCell'])
  refine ⟨a', c', w', m1, ⟨h.bel.trans (m3.below h.bel.size (fun k _ hk => h.new k hk)), by rw [iC_app, List.length_append]; exact m2, fun k hk => ?_⟩, m3, m4⟩
  rcases m4 k hk with h1 | h1
  · exact h.new k h1
  · exact Nat.le_trans h.bel.size h1
/-- Collecting the keys: what was met, what is to come. -/
structure Cl (w wr : World) (m r c : Nat) (D : DataW Unit) (a : Option Addr) (ca : Nat) (ss : List Int) (left : Lit → Bool) (k : Nat) : Prop where
  rg : wr.ranges Try.prog 3 (plainElem Try.prog 3) m r c D left k
  co : CollectedI D left ss
  own : Own w wr a ca ss
  len : ss.length + k ≤ c
  ne : ∀ j, blk a = some j → j ≠ m ∧ j ≠ r
  rl : r < wr.heap.size
theorem Cl.next {w wr w2 : World} {m r c : Nat} {D : DataW Unit} {a : Option Addr} {ca : Nat} {ss : List Int} {left : Lit → Bool} {k k2 : Nat} (h : Cl w wr m r c D a ca ss left k) {x : Int} {y : DataW Unit} (hlk : left (.int .i64 x) = true) (hat : ∀ zd, D.atKey (.int .i64 x) zd = y)
    (hrg : w2.ranges Try.prog 3 (plainElem Try.prog 3) m r c D (fun z => left z && !z.sameKey (.int .i64 x)) k2) (hlt : k2 < k) (hg : wr.grownBy w2 (some r)) (hr : w.heap.size ≤ r) (hm : m < w.heap.size) (hc : c < 1000000000) :
    ∃ a' c' w3, (∀ ty, (Builtin.append_ #[25, 25] ty #[.slice a ss.length ca, .slice (some ⟨w2.heap.size, 0, none⟩) 1 1]).run Try.prog (w2.alloc (.cells #[.int .i64 x] 3)) = .ok (.slice a' (ss.length + 1) c') w3) ∧ Cl w w3 m r c D a' c' (ss ++ [x]) (fun z => left z && !z.sameKey (.int .i64 x)) k2 := by
  have hm2 := mod_grown hg
  have ho : Own w w2 a ca ss := ⟨h.own.bel.trans (hm2.below h.own.bel.size (fun j _ e => by cases e; exact hr)), h.own.row.mod hm2 (fun j hj e => (h.ne j hj).2 (Option.some.inj e).symm), h.own.new⟩
  obtain ⟨a', c', w3, p1, p2, p3, p4⟩ := ho.push2 (by have := h.len; omega) x
  have hs2 := hm2.size
  have hs3 := p3.size
  have hrl := h.rl
  have hml : m < w2.heap.size := by have := h.own.bel.size; omega
  refine ⟨a', c', w3, p1, ranges_kept hrg (p3.block m hml (fun e => (h.ne m e).1 rfl)) (p3.block r (by omega) (fun e => (h.ne r e).2 rfl)), h.co.step hlk hat, p2, by have := h.len; rw [List.length_append]; simp; omega, fun j hj => ?_, by omega⟩
  rcases p4 j hj with e | e
  · exact h.ne j e
  · omega

set_option maxRecDepth 100000 in
set_option maxHeartbeats 4000000 in
theorem rring_any {w : World} {a : Option Addr} {n cp : Nat} {e : Es} (hR : Rd w a (wC e)) (hF : FitE e) (hN : Hid (e.length = n)) (h8 : n ≤ 1048576) :
    Calls Try.prog 6 #[.slice a n cp] w fun x w' => RingOut w e x w' := by
  have hmm : ∀ W : World, (Instr.makeMap 29 none).run Try.prog W = .ok (.map (some W.heap.size)) (W.alloc (.map #[] 0)) := fun W => rfl
  have hcn := rnext_any (cp := cp) hR hF hN (by omega)
  obtain ⟨f, hf⟩ : ∃ f, Hid (nxs e = f) := ⟨_, rfl⟩
  obtain ⟨U, hU⟩ : ∃ U, Hid (ends e = U) := ⟨_, rfl⟩
  have HU : Hid (U.length ≤ 6000000) := hd (by rw [← hU.out, ends_len, hN.out]; omega)
  have HUF : Hid (∀ x ∈ U, Fit64 x) := hd (fun x hx => fit_ends hF (by rw [hU.out]; exact hx))
  have HFF : Hid (FitF f) := hd (by rw [← hf.out]; exact fit_nxs hF)
  have HUM : Hid (∀ x q, f x = some q → x ∈ U ∧ q ∈ U) := hd (fun x q h => by rw [← hU.out]; exact ends_nxs (by rw [hf.out]; exact h))
  clear hR hF hU
  go_enter Try.func6, Try.ntmps6
  go_upto_region 2 with (first | (go_at_call 10; refine hcn.mono ?_; rintro x0 w1 ⟨m, c, rfl, m1, m2, m3, m4⟩))
  rw [hf.out] at m4
  have HM1 := hd m4
  have HB1 := hd m3
  have hc6 : c ≤ 1048576 := by have := hN.out; omega
  obtain ⟨D, d1, d2, d3, d4, d5⟩ := m4.ex
  have HDK := hd (keys_has d1 lawInt Try.underlying3)
  have HD5 := hd d5
  have HD1 := hd d1
  have HML : Hid (m < w1.heap.size) := hd d1.lt
  clear m1 m2 m3 m4 hcn d1 d2 d4 d5
  have HSZ := hd d3
  go_upto_region 3 with fail
  obtain ⟨a2, ha2⟩ : ∃ A, Hid (some (⟨w1.heap.size, 0, none⟩ : Addr) = A) := ⟨_, rfl⟩
  obtain ⟨w2, hw2⟩ : ∃ W, Hid (w1.alloc (.cells #[] 3) = W) := ⟨_, rfl⟩
  have HO2 : Hid (Own w1 w2 a2 0 []) := hd (by rw [← hw2.out, ← ha2.out]; exact Own.empty)
  have HBK : Hid (∀ j, blk a2 = some j → j = w1.heap.size) := hd (fun j hj => by rw [← ha2.out] at hj; cases hj; rfl)
  have HS2 : Hid (w1.heap.size < w2.heap.size) := hd (by rw [← hw2.out]; simp)
  have hown2 : w2.ownsMap Try.prog 3 (plainElem Try.prog 3) m c D := owns_kept HD1.out (HO2.out.bel.block m HML.out)
  rw [hw2.out]
  try simp only [ha2.out]
  clear hw2 ha2 d3
  go_wp2_with (first | (at_range; refine wpList_range_own _ rfl _ 29 rfl 3 3 lawInt Try.underlying29 _ m c D rfl hown2 ?_; intro w3 hrg0 hg0 hs0))
  go_frame
  obtain ⟨r, hr⟩ : ∃ r, Hid (w2.heap.size = r) := ⟨_, rfl⟩
  have HCL : Hid (Cl w1 w3 m r c D a2 0 [] (Maps.has D) (Maps.size D)) := hd (by
    have hm3 := mod_grown hg0
    have h1 := HS2.out
    have h2 := hr.out
    have h3 := HML.out
    rw [h2] at hrg0
    refine ⟨hrg0, CollectedI.start D, ⟨HO2.out.bel.trans (hm3.below HO2.out.bel.size (fun j _ e => by cases e)), HO2.out.row.mod hm3 (fun j _ e => by cases e), HO2.out.new⟩, ?_, fun j hj => ?_, ?_⟩
    · have := owns_tight HD1.out; have h4 := HSZ.out; simp; omega
    · have := HBK.out j hj; omega
    · omega)
  have HRG : Hid (w1.heap.size ≤ r) := hd (by have := HS2.out; have := hr.out; omega)
  clear hrg0 hg0 hs0 hown2 HO2 HBK HS2
  try rw [hr.out]
  go_loopg [4, 5, 19, 20, 21, 22, 23, 24, 25, 26] (Maps.size D) (fun k v4 v5 v19 v20 v21 v22 v23 v24 v25 v26 wr => ∃ (left : Lit → Bool) (ss : List Int) (a : Option Addr) (ns ca : Nat), v4 = .slice a ns ca ∧ Hid (ss.length = ns) ∧ Hid (Cl w1 wr m r c D a ca ss left k))
  case atStart => exact ⟨_, [], a2, 0, 0, rfl, hd rfl, HCL⟩
  case round =>
    obtain ⟨left, ss, aS, ns, cS, rfl, hns, HC⟩ := hrel
    clear HCL
    go_wp2_with (first
      | (at_next; refine wpList_next_ranges_ii _ rfl _ rfl 3 3 .i64 .i64 lawInt Try.underlying3 Try.underlying3 m r c _ _ _ rfl HC.out.rg ?_ ?_))
    · intro hc0 hl0
      have HPM : Hid (ss.Perm (intKeys D)) := hd (HC.out.co.perm HD1.out lawInt Try.underlying3 hl0)
      have hsr := rsorted_any ns wr aS ns cS ss hns.out (Nat.le_refl _) (by have := HC.out.own.row.capLe; have := hns.out; omega) (by have := HC.out.len; have := hns.out; omega) HC.out.own.row.2.2.1 HC.out.own.row.rd
      have HB5 : Hid (Below w1.heap.size w1 wr) := hd HC.out.own.bel
      have hnsc : ns ≤ c := by have := HC.out.len; have := hns.out; omega
      clear HC hc0 hl0
      go_upto_region 8 with (first | (go_at_call 11; refine hsr.mono ?_; rintro x5 w5 ⟨K, aK, cK, rfl, k1, k2, k3, k4, k5⟩))
      clear hsr
      obtain ⟨nk, hnk⟩ : ∃ nk, Hid (K.length = nk) := ⟨_, rfl⟩
      rw [hnk.out] at k1 ⊢
      have HKY : Hid (Keys f K) := hd ⟨sorted_strict HDK.out.1 (k3.trans HPM.out) (k2.imp (fun {a b} h => by simpa [leI] using h)), fun x => by rw [(k3.trans HPM.out).mem_iff, HDK.out.2, HD5.out]⟩
      have hnkb : nk ≤ 1048576 := by have := k3.length_eq; rw [hnk.out, hns.out] at this; omega
      have HRK : Hid (Rd w5 aK (iC K)) := hd k4
      have HM5 : Hid (MapAt w5 m f c) := hd (HM1.out.below (HB5.out.trans (k5.mono HB5.out.size)))
      have HBW5 : Hid (Below w.heap.size w w5) := hd (HB1.out.trans ((HB5.out.trans (k5.mono HB5.out.size)).mono HB1.out.size))
      clear k2 k3 k4 k5 HPM hns HB5 HM1 HB1 HDK HD5 HD1 HML HSZ HRG hr hnsc
      obtain ⟨o, how⟩ := ways_ex (nx := f) (U := U) (fun x q h => (HUM.out x q h).2) K 0 (fun _ => none) (fun x hx => by
        have := (HKY.out.2 x).1 hx
        cases hq : f x with
        | none => rw [hq] at this; cases this
        | some q => exact (HUM.out x q hq).1)
      have HKU : Hid (∀ i, i < nk → K.getD i 0 ∈ U) := hd (fun i hi => by
        have := (HKY.out.2 _).1 (k_mem (by rw [hnk.out]; exact hi))
        cases hq : f (K.getD i 0) with
        | none => rw [hq] at this; cases this
        | some q => exact (HUM.out _ q hq).1)
      have HO : Hid (o = none ∨ ∃ z, o = some z ∧ ∃ k, Turn f z k ∧ k ≤ 6000000 ∧ Fit64 z ∧ (f z).isSome = true) := hd (by
        cases ho : o with
        | none => exact .inl rfl
        | some z =>
          obtain ⟨k, hk⟩ := ways_ring (how) ho (fun x g h => by cases h)
          have h1 := hk.next (j := 0) hk.1
          exact .inr ⟨z, rfl, k, hk, Nat.le_trans (hk.le (fun x q h => (HUM.out x q h).2)) HU.out, HUF.out _ (HUM.out _ _ h1).1, by rw [show f z = _ from h1]; rfl⟩)
      have HKK : Hid (Keys (nxs e) K ∧ Ways (nxs e) K 0 (fun _ => none) o) := hd (by rw [hf.out]; exact ⟨HKY.out, how⟩)
      have HOW := hd how
      clear how HKY
      go_upto_region 9 with fail
      obtain ⟨m2, hm2⟩ : ∃ m2, Hid (w5.heap.size = m2) := ⟨_, rfl⟩
      obtain ⟨w6, hw6⟩ : ∃ W, Hid (w5.alloc (.map #[] 0) = W) := ⟨_, rfl⟩
      have HBS : Hid (Bs w5 w6 m m2 f U (fun g => (g : Int) + 1) (fun _ => none) ∧ (∀ x g, (fun _ => none : Cm) x = some g → g < 0) ∧ Ways f (K.drop 0) 0 (fun _ => none) o) := hd ⟨⟨by rw [← hw6.out]; exact below_al w5 _, ⟨c, HM5.out.below (by rw [← hw6.out]; exact below_al w5 _)⟩, ⟨0, by
        have := (MapAt.new w5).congr (f' := mkf (fun g => (g : Int) + 1) (fun _ => none)) (fun x => rfl)
        rw [hw6.out, hm2.out] at this
        exact this, by have := free_le U (fun _ => none); omega⟩, by have := HM5.out.lt; have := hm2.out; omega, by have := hm2.out; omega⟩, fun x g h => (by cases h), by rw [List.drop_zero]; exact HOW.out⟩
      try rw [hw6.out]
      try simp only [hm2.out]
      clear hm2 hw6 HM5 hmm HOW
      go_wp2_with fail
      go_loopg [7, 8, 9, 10, 11, 12, 13, 30, 31, 32, 33, 34, 35, 36, 37, 38, 39, 40, 41, 42, 43, 44, 45, 46, 47, 48, 49, 50, 51, 52, 53, 54, 55, 56, 57, 58, 59, 60, 61, 62, 63, 64, 65, 66, 67, 68, 69, 70, 71, 72, 73, 74, 75, 76, 77] nk (fun k v7 v8 v9 v10 v11 v12 v13 v30 v31 v32 v33 v34 v35 v36 v37 v38 v39 v40 v41 v42 v43 v44 v45 v46 v47 v48 v49 v50 v51 v52 v53 v54 v55 v56 v57 v58 v59 v60 v61 v62 v63 v64 v65 v66 v67 v68 v69 v70 v71 v72 v73 v74 v75 v76 v77 wr => ∃ i : Nat, i + k = nk ∧ v7 = .int .i64 (i : Int) ∧ ∃ cm, Hid (Bs w5 wr m m2 f U (fun g => (g : Int) + 1) cm ∧ (∀ x g, cm x = some g → g < i) ∧ Ways f (K.drop i) i cm o))
      case atStart => exact ⟨0, by omega, by go_num, _, HBS⟩
      case round =>
        obtain ⟨i, hik, rfl, cm, HX⟩ := hrel
        clear HBS
        by_cases h0 : gk = 0
        · subst h0
          have hi : i = nk := by omega
          subst hi
          have HE : Hid (RingOut w e (.returned (.slice none 0 0)) wr) := hd (by
            have h3 := HX.out.2.2
            rw [List.drop_of_length_le (by rw [hnk.out]; exact Nat.le_refl _)] at h3
            cases h3
            exact RingOut.no HKK.out.1 HKK.out.2 (HBW5.out.trans (HX.out.1.bel.mono HBW5.out.size)))
          clear HX HO HKK hik HKU HUM HFF HUF HU
          go_wp2_with fail
          go_ret
          exact HE.out
        · have hlt : i < nk := by omega
          have hik' : i < K.length := by rw [hnk.out]; exact hlt
          obtain ⟨g, og, rfl, cK0⟩ := rd_num (HRK.out.below HX.out.1.bel) i hik'
          obtain ⟨x, hx⟩ : ∃ x, Hid (K.getD i 0 = x) := ⟨_, rfl⟩
          rw [hx.out] at cK0
          have HXU : Hid (x ∈ U) := hd (by rw [← hx.out]; exact HKU.out i hlt)
          obtain ⟨k0, hw0⟩ := wy_start (by have := HX.out.2.2; rw [k_drop hik', hx.out] at this; exact this) HX.out.2.1 HXU.out
          have HBW : Hid (Bs w5 wr m m2 f U (fun g => (g : Int) + 1) cm ∧ Wy f U (K.drop (i + 1)) i o cm x true k0 ∧ x ∈ U ∧ (true = false → f x = none)) := hd ⟨HX.out.1, hw0, HXU.out, fun h => by cases h⟩
          obtain ⟨GK, hGK⟩ : ∃ GK, Hid (gk = GK) := ⟨_, rfl⟩
          have hGi : i + GK = nk := by rw [← hGK.out]; exact hik
          have hG0 : ¬ GK = 0 := by rw [← hGK.out]; exact h0
          clear HX hw0 h0 HXU
          go_upto_region 14 with fail
          go_wp2_with fail
          go_loopg [8, 9, 10, 11, 40, 41, 42, 43, 44, 45, 46, 47, 48, 49, 50, 51, 52, 53, 54, 55, 56, 57, 58, 59] k0 (fun k v8 v9 v10 v11 v40 v41 v42 v43 v44 v45 v46 v47 v48 v49 v50 v51 v52 v53 v54 v55 v56 v57 v58 v59 wr => ∃ (p : Int) (goes : Bool) (cm : Cm), v8 = .int .i64 p ∧ v9 = .bool goes ∧ Hid (Bs w5 wr m m2 f U (fun g => (g : Int) + 1) cm ∧ Wy f U (K.drop (i + 1)) i o cm p goes k ∧ p ∈ U ∧ (goes = false → f p = none)))
          case atStart => exact ⟨x, true, cm, rfl, rfl, HBW⟩
          case round =>
            obtain ⟨p, goes, cn, rfl, rfl, HW⟩ := hrel
            clear HBW
            have hpf := HUF.out p HW.out.2.2.1
            have hl1 := HW.out.1.look1 hpf
            have hlT := HW.out.1.lookTo hpf
            cases goes with
            | false =>
              obtain ⟨hk0, hw1, hw2⟩ := HW.out.2.1.stop
              have hfn := HW.out.2.2.2 rfl
              rw [hfn] at hlT
              have HE := hd (And.intro HW.out.1 (And.intro hw2 hw1))
              clear hw1 hw2 HW hl1 hfn
              go_wp2_with fail
              go_roundg (GK - 1)
              case rel => exact ⟨i + 1, by omega, by go_num, cn, HE⟩
              case measure => omega
            | true =>
              obtain ⟨hkp, hpU⟩ := HW.out.2.1.pos
              cases hc : cn p with
              | none =>
                rw [show mkf (fun g => (g : Int) + 1) cn p = none by unfold mkf; rw [hc]; rfl] at hl1
                obtain ⟨w7, hst, hB5, hM5⟩ := HW.out.1.mark (i := i) hc hpU HU.out hpf (show Fit64 ((i : Int) + 1) from ⟨by omega, by omega⟩)
                have hst : (Instr.mapUpdate 29 (.map (some m2)) (.int .i64 p) (.int .i64 ((i : Int) + 1))).run Try.prog wr = .ok () w7 := hst
                have hl5 := hB5.lookTo hpf
                have HB5 := hd hB5
                clear hlT
                cases hn : f p with
                | none =>
                  rw [hn] at hl5
                  have HE : Hid (Bs w5 w7 m m2 f U (fun g => (g : Int) + 1) (setN cn p i) ∧ Wy f U (K.drop (i + 1)) i o (setN cn p i) p false 0 ∧ p ∈ U ∧ (false = false → f p = none)) := hd ⟨HB5.out, HW.out.2.1.sink hc hn p, hpU, fun _ => hn⟩
                  clear HW hB5 HB5 hM5 hpf hpU hc hn
                  go_wp2_with fail
                  go_roundg 0
                  case rel => exact ⟨p, false, _, rfl, rfl, hd ⟨HE.out.1, HE.out.2.1, HE.out.2.2.1, fun _ => HE.out.2.2.2 trivial⟩⟩
                  case measure => omega
                | some q =>
                  rw [hn] at hl5
                  have HE : Hid (Bs w5 w7 m m2 f U (fun g => (g : Int) + 1) (setN cn p i) ∧ Wy f U (K.drop (i + 1)) i o (setN cn p i) q true (gk - 1) ∧ q ∈ U ∧ (true = false → f q = none)) := hd ⟨HB5.out, HW.out.2.1.go (fun x q h => (HUM.out x q h).2) hc hn, (HUM.out p q hn).2, fun h => by cases h⟩
                  clear HW hB5 HB5 hM5 hpf hpU hc hn
                  go_wp2_with fail
                  go_roundg (gk - 1)
                  case rel => exact ⟨q, true, _, rfl, rfl, HE⟩
                  case measure => omega
              | some j =>
                rw [show mkf (fun g => (g : Int) + 1) cn p = some ((j : Int) + 1) by unfold mkf; rw [hc]; rfl] at hl1
                have hl1 : (Instr.lookup 29 (.map (some m2)) (.int .i64 p) false).run Try.prog wr = .ok (.int .i64 ((j : Int) + 1)) wr := hl1
                have hj0 : ((j : Int) + 1 == 0) = false := by simpa using (show ¬ (j : Int) + 1 = 0 by omega)
                by_cases hj : j = i
                · subst hj
                  have hop := HW.out.2.1.ring hc
                  obtain ⟨kk, hT, hkk, hzf, hfs⟩ : ∃ k, Turn f p k ∧ k ≤ 6000000 ∧ Fit64 p ∧ (f p).isSome = true := by
                    rcases HO.out with h | ⟨z, h, k, h1, h2, h3, h4⟩
                    · rw [h] at hop; cases hop
                    · rw [h] at hop; cases hop; exact ⟨k, h1, h2, h3, h4⟩
                  rw [hfs] at hlT
                  obtain ⟨ct, hct⟩ := HW.out.1.goal
                  have har := told_any hct HFF.out hT hkk hzf
                  have HFIN : Hid (∀ e' w', ToldOut wr f p e' w' → RingOut w e e' w') := hd (fun e' w' h => RingOut.yes HKK.out.1 (by have := HKK.out.2; rw [hop] at this; exact this) (HBW5.out.trans (HW.out.1.bel.mono HBW5.out.size)) (by rw [hf.out]; exact h))
                  have hjj : ((j : Int) + 1 == (j : Int) + 1) = true := by simp
                  obtain ⟨qv, hqv⟩ : ∃ qv, Hid ((f p).getD 0 = qv) := ⟨_, rfl⟩
                  rw [hqv.out] at hlT
                  clear HW HO HKK hT hkk hct hzf hpf hpU hc hfs hop
                  go_wp2_with (go_at_call 12; (with_reducible refine har.mono ?_); rintro x9 w9 h9; have h9 := hd (HFIN.out _ _ h9); obtain ⟨l9, q1, a9, c9, rfl, q2⟩ := h9.out)
                  go_ret
                  exact h9.out
                · obtain ⟨hw1, hw2⟩ := HW.out.2.1.met hc hj
                  have HE := hd (And.intro HW.out.1 (And.intro hw2 hw1))
                  have hji : ((j : Int) + 1 == (i : Int) + 1) = false := by simpa using (show ¬ (j : Int) + 1 = (i : Int) + 1 by omega)
                  obtain ⟨qv, hqv⟩ : ∃ qv, Hid ((f p).getD 0 = qv) := ⟨_, rfl⟩
                  obtain ⟨qb, hqb⟩ : ∃ qb, Hid ((f p).isSome = qb) := ⟨_, rfl⟩
                  rw [hqv.out, hqb.out] at hlT
                  clear HW hw1 hw2 hpf hpU hc hqv hqb
                  cases qb
                  · go_wp2_with fail
                    go_roundg (GK - 1)
                    case rel => exact ⟨i + 1, by omega, by go_num, cn, HE⟩
                    case measure => omega
                  · go_wp2_with fail
                    go_roundg (GK - 1)
                    case rel => exact ⟨i + 1, by omega, by go_num, cn, HE⟩
                    case measure => omega
    · intro x cc w6 cnt2 hwx hwc hlk hat hrg2 hlt hg2 hs2 hen
      obtain ⟨a', c', w7, hap, hC7⟩ := HC.out.next hlk hat hrg2 hlt hg2 HRG.out HML.out (by omega)
      rw [hns.out] at hap
      have hap := hd hap
      have HC7 := hd hC7
      have HN7 : Hid ((ss ++ [x]).length = ns + 1) := hd (by rw [List.length_append, hns.out]; rfl)
      clear HC hC7 hs2 hg2 hrg2 hat hlk hwx hwc hns
      go_wp2_with (first | (at_builtin; refine wpList_append_run rfl _ _ _ rfl _ _ _ _ rfl rfl hap.out ?_; clear hap))
      go_roundg cnt2
      case rel => exact ⟨_, ss ++ [x], a', ns + 1, c', rfl, HN7, HC7⟩
      case measure => exact hlt
end Go.Proofs.Ytcmcapddijpidaa
