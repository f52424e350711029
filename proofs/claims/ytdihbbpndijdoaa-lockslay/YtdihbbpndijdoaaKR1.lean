/- The document's side: asked, Waits, Holds. -/
import Derived.Test.YtdihbbpndijdoaaKWF
namespace Go.Proofs.Ytdihbbpndijdoaa
open Go.RowKit Go.Maps

/-- The document's locks. -/
def Rk (w : World) (b : Nat) (F : Nat → Prop) (os : List Int) (qs : Qs) : Prop := qs.length = os.length ∧ os.length ≤ 8 ∧ ∃ ao co aq cq es, LB w 54 [] b ao co aq cq os es ∧ qsOf es = qs ∧ (∀ k, lfp b ao aq es k → F k) ∧ ∀ k, F k → k < w.heap.size
def RkOut (w : World) (b : Nat) (F : Nat → Prop) (os' : List Int) (qs' : Qs) (w' : World) : Prop := Mod F w w' ∧ ∃ F', Rk w' b F' os' qs' ∧ ∀ k, F' k → F k ∨ w.heap.size ≤ k
section
variable {w w' : World} {b : Nat} {F : Nat → Prop} {os : List Int} {qs : Qs}
theorem Rk.mod {S : Nat → Prop} (h : Rk w b F os qs) (hm : Mod S w w') (hn : ∀ k, F k → ¬ S k) : Rk w' b F os qs := by
  obtain ⟨h1, h2, ao, co, aq, cq, es, h3, h4, h5, h6⟩ := h
  exact ⟨h1, h2, ao, co, aq, cq, es, h3.mod hm (fun k hk => hn k (h5 k hk)), h4, h5, fun k hk => Nat.lt_of_lt_of_le (h6 k hk) hm.size⟩
theorem Rk.below (h : Rk w b F os qs) (hb : Below w.heap.size w w') : Rk w' b F os qs := h.mod (Mod.of_below (fun _ => False) hb) (fun _ _ h => h)
theorem Rk.lt (h : Rk w b F os qs) : ∀ k, F k → k < w.heap.size := by
  obtain ⟨h1, h2, ao, co, aq, cq, es, h3, h4, h5, h6⟩ := h
  exact h6
theorem RkOut.same (h : Rk w b F os qs) (hb : Below w.heap.size w w') : RkOut w b F os qs w' := ⟨Mod.of_below _ hb, F, h.below hb, fun _ h => .inl h⟩
theorem RkOut.mk' {ao aq ao' aq' : Option Addr} {co' cq' : Nat} {os' : List Int} {es es' : List Qe} {qs' : Qs} (hF : ∀ k, lfp b ao aq es k → F k) (hm : Mod (lfp b ao aq es) w w') (h1 : qs'.length = os'.length) (h2 : os'.length ≤ 8) (hL : LB w' 54 [] b ao' co' aq' cq' os' es') (hq : qsOf es' = qs') (hn : ∀ k, lfp b ao' aq' es' k → lfp b ao aq es k ∨ w.heap.size ≤ k) : RkOut w b F os' qs' w' :=
  ⟨hm.mono (fun k _ hk => hF k hk), lfp b ao' aq' es', ⟨h1, h2, ao', co', aq', cq', es', hL, hq, fun _ h => h, hL.lt⟩, fun k hk => by
    rcases hn k hk with h | h
    · exact .inl (hF k h)
    · exact .inr h⟩
end
theorem lfp_set {b : Nat} {ao aq : Option Addr} {es : List Qe} {i : Nat} {e' : Qe} {B : Nat} (hi : i < es.length) (hn : ∀ j, blk e'.1 = some j → blk (eAt es i).1 = some j ∨ B ≤ j) : ∀ k, lfp b ao aq (es.set i e') k → lfp b ao aq es k ∨ B ≤ k := fun k hk => by
  rcases hk with hk | hk | hk | ⟨j, hj, hk⟩
  · exact .inl (.inl hk)
  · exact .inl (.inr (.inl hk))
  · exact .inl (.inr (.inr (.inl hk)))
  · rw [List.length_set] at hj
    rw [eAt_set hi] at hk
    split at hk
    · rcases hn k hk with h1 | h1
      · exact .inl (.inr (.inr (.inr ⟨i, hi, h1⟩)))
      · exact .inr h1
    · exact .inl (.inr (.inr (.inr ⟨j, hj, hk⟩)))
/-- One of who waits. -/
theorem LB.who {w : World} {T : TypeId} {X : List Value} {b : Nat} {ao : Option Addr} {co : Nat} {aq : Option Addr} {cq : Nat} {os : List Int} {es : List Qe} (h : LB w T X b ao co aq cq os es) (i k : Nat) (hi : i < es.length) (hk : k < (eAt es i).2.2.length) : ∃ g o, (eAt es i).1 = some ⟨g, o, none⟩ ∧ w.cell? ⟨g, o + k, none⟩ = some (.int .i64 ((eAt es i).2.2.getD k 0)) := (h.qs i hi).rd.int k hk

theorem rmay_any {w : World} {X : List Value} {b : Nat} {ao : Option Addr} {co : Nat} {aq : Option Addr} {cq : Nat} {os : List Int} {es : List Qe} (h : LB w 54 X b ao co aq cq os es) (lock p : Int) :
    Calls Try.prog 41 #[.pointer (some ⟨b, 0, none⟩), .int .i64 lock, .int .i64 p] w fun e w' => e = .returned (.int .i64 (mayE os.length lock p)) ∧ w' = w := by
  have c0 := h.c0
  clear h
  unfold mayE
  generalize os.length = n at *
  by_cases h1 : lock < 0
  · rw [if_pos (.inl h1)]
    go_enter Try.func41, Try.ntmps41
    go_wp2
    go_ret
    exact ⟨rfl, rfl⟩
  · have h1' : decide (lock < 0) = false := by simpa using h1
    by_cases h2 : (n : Int) ≤ lock
    · rw [if_pos (.inr h2)]
      clear h1
      go_enter Try.func41, Try.ntmps41
      go_wp2
      go_ret
      exact ⟨rfl, rfl⟩
    · have h2' : decide ((n : Int) ≤ lock) = false := by simpa using h2
      rw [if_neg (by omega)]
      by_cases h3 : p < 0
      · rw [if_pos h3]
        clear h1 h2
        go_enter Try.func41, Try.ntmps41
        go_wp2
        go_ret
        exact ⟨rfl, rfl⟩
      · have h3' : decide (p < 0) = false := by simpa using h3
        rw [if_neg h3]
        clear h1 h2 h3
        go_enter Try.func41, Try.ntmps41
        go_wp2
        go_ret
        exact ⟨rfl, rfl⟩


theorem wtI_first {qs : Qs} {p : Int} {i : Nat} (hi : p ∈ qAt qs i) (hn : ∀ j, j < i → p ∉ qAt qs j) : wtI qs p = some (i : Int) := by
  have hl := qAt_lt hi
  have : wt qs p = some i := by
    unfold wt
    rw [List.findIdx?_eq_some_iff_getElem]
    refine ⟨hl, ?_, fun j hj hc => ?_⟩
    · unfold qAt at hi
      rw [List.getD_eq_getElem?_getD, List.getElem?_eq_getElem hl] at hi
      simpa using hi
    · refine hn j hj ?_
      unfold qAt
      rw [List.getD_eq_getElem?_getD, List.getElem?_eq_getElem (by omega)]
      simpa using hc
  unfold wtI
  rw [this]
  rfl

set_option maxRecDepth 100000 in
set_option maxHeartbeats 2000000 in
theorem rwaits_any {w : World} {b : Nat} {F : Nat → Prop} {os : List Int} {qs : Qs} (h : Rk w b F os qs) (ht : total qs ≤ 8796093022208) (p : Int) :
    Calls Try.prog 36 #[.pointer (some ⟨b, 0, none⟩), .int .i64 p] w fun e w' => e = .returned (.tuple #[.int .i64 ((wtI qs p).getD 0), .bool (wtI qs p).isSome]) ∧ w' = w := by
  obtain ⟨hl, h8, ao, co, aq, cq, es, hL, hq, -, -⟩ := h
  have c1 := hL.c1
  have hel : es.length = os.length := by rw [← hl, ← hq, qsOf_len]
  have HC : Hid (∀ i, i < es.length → ∃ g, aq = some ⟨g, 0, none⟩ ∧ w.cell? ⟨g, i, none⟩ = some (.slice (eAt es i).1 (qAt qs i).length (eAt es i).2.1)) := hd (fun i hi => by
    rw [← hq, qAt_of]; exact hL.queue i hi)
  have HW : Hid (∀ i k, i < es.length → k < (qAt qs i).length → ∃ g o, (eAt es i).1 = some ⟨g, o, none⟩ ∧ w.cell? ⟨g, o + k, none⟩ = some (.int .i64 ((qAt qs i).getD k 0))) := hd (fun i k hi hk => by
    rw [← hq, qAt_of] at hk ⊢; exact hL.who i k hi hk)
  have HQN : Hid (∀ i, (qAt qs i).length ≤ 8796093022208) := hd (fun i => Nat.le_trans (total_le i) ht)
  obtain ⟨n, hN⟩ : ∃ n, Hid (es.length = n) := ⟨_, rfl⟩
  rw [← hel, hN.out] at h8
  rw [hN.out] at c1 HC HW
  have HOUT : Hid (∀ i, n ≤ i → qAt qs i = []) := hd (fun i hi => by
    rw [← hq, qAt_of]
    unfold eAt
    rw [List.getD_eq_getElem?_getD, List.getElem?_eq_none (by rw [hN.out]; exact hi)]
    rfl)
  obtain ⟨R1, hR1⟩ : ∃ R1, Hid ((wtI qs p).getD 0 = R1) := ⟨_, rfl⟩
  obtain ⟨R2, hR2⟩ : ∃ R2, Hid ((wtI qs p).isSome = R2) := ⟨_, rfl⟩
  rw [hR1.out, hR2.out]
  clear hL hel hl hq ht
  go_enter Try.func36, Try.ntmps36
  go_wp2_with fail
  go_loopg [6, 7, 8, 9, 10, 11, 12, 13, 14, 15, 16, 17, 18, 19, 20, 21, 22, 23, 24, 25, 26, 27, 28, 29, 30, 31, 32, 33, 34, 35, 36, 37, 38, 39, 40] n (fun k v6 v7 v8 v9 v10 v11 v12 v13 v14 v15 v16 v17 v18 v19 v20 v21 v22 v23 v24 v25 v26 v27 v28 v29 v30 v31 v32 v33 v34 v35 v36 v37 v38 v39 v40 wr => ∃ i : Nat, i + k = n ∧ v6 = .int .i64 (i : Int) ∧ wr = w ∧ Hid (∀ j, j < i → p ∉ qAt qs j))
  case atStart => exact ⟨0, by omega, by go_num, rfl, hd (fun j hj => absurd hj (Nat.not_lt_zero _))⟩
  case round =>
    obtain ⟨i, hik, rfl, rfl, HNI⟩ := hrel
    by_cases h0 : gk = 0
    · subst h0
      have hi : i = n := by omega
      subst hi
      have hwn : wtI qs p = none := wtI_none (fun j => by
        by_cases hj : j < i
        · exact HNI.out j hj
        · rw [HOUT.out j (by omega)]; exact List.not_mem_nil)
      obtain rfl : R1 = 0 := by rw [← hR1.out, hwn]; rfl
      obtain rfl : R2 = false := by rw [← hR2.out, hwn]; rfl
      clear hwn hR1 hR2 HNI HOUT HC HW HQN hik
      go_wp2_with fail
      go_ret2
      exact ⟨rfl, rfl⟩
    · have hlt : i < n := by omega
      obtain ⟨g, rfl, ci⟩ := HC.out i hlt
      obtain ⟨ln, hLN⟩ : ∃ ln, Hid ((qAt qs i).length = ln) := ⟨_, rfl⟩
      have hln := HQN.out i
      rw [hLN.out] at ci hln
      obtain ⟨wo, rfl⟩ : ∃ W, W = wr := ⟨_, rfl⟩
      go_wp2_with fail
      go_loopg [7, 17, 18, 19, 20, 21, 22, 23, 24, 25, 26, 27, 28, 29, 30, 31, 32, 33, 34, 35, 36, 37, 38, 39, 40] ln (fun k v7 v17 v18 v19 v20 v21 v22 v23 v24 v25 v26 v27 v28 v29 v30 v31 v32 v33 v34 v35 v36 v37 v38 v39 v40 wr => ∃ t : Nat, t + k = ln ∧ v7 = .int .i64 (t : Int) ∧ wr = wo ∧ Hid (∀ j, j < t → (qAt qs i).getD j 0 ≠ p))
      case atStart => exact ⟨0, by omega, by go_num, rfl, hd (fun j hj => absurd hj (Nat.not_lt_zero _))⟩
      case round =>
        obtain ⟨t, htk, rfl, rfl, HNT⟩ := hrel
        by_cases ht0 : t < ln
        · obtain ⟨gx, ox, hax, cx⟩ := HW.out i t hlt (by rw [hLN.out]; exact ht0)
          rw [hax] at ci
          obtain ⟨x, hx⟩ : ∃ x, Hid ((qAt qs i).getD t 0 = x) := ⟨_, rfl⟩
          rw [hx.out] at cx
          by_cases he : x = p
          · have hm : p ∈ qAt qs i := by
              rw [← he, ← hx.out, List.getD_eq_getElem?_getD, List.getElem?_eq_getElem (by rw [hLN.out]; exact ht0)]
              exact List.getElem_mem _
            have hwn := wtI_first hm HNI.out
            obtain rfl : R1 = (i : Int) := by rw [← hR1.out, hwn]; rfl
            obtain rfl : R2 = true := by rw [← hR2.out, hwn]; rfl
            subst he
            clear hwn hR1 hR2 HNI HOUT HC HW HQN HNT hm hax
            go_wp2_with fail
            go_ret2
            exact ⟨rfl, rfl⟩
          · have he' : (x == p) = false := by simpa using he
            have HNT2 : Hid (∀ j, j < t + 1 → (qAt qs i).getD j 0 ≠ p) := hd (fun j hj => by
              by_cases ej : j = t
              · rw [ej, hx.out]; exact he
              · exact HNT.out j (by omega))
            clear he HNT HC HW HQN HOUT hR1 hR2 hax
            go_wp2_with fail
            go_roundg (gk - 1)
            case rel => exact ⟨t + 1, by omega, by go_num, rfl, HNT2⟩
            case measure => omega
        · have htl : t = ln := by omega
          subst htl
          have HN2 : Hid (∀ j, j < i + 1 → p ∉ qAt qs j) := hd (fun j hj => by
            by_cases ej : j = i
            · subst ej
              intro hm
              obtain ⟨k, hk, hkp⟩ := List.getElem_of_mem hm
              refine HNT.out k (by rw [← hLN.out]; exact hk) ?_
              rw [List.getD_eq_getElem?_getD, List.getElem?_eq_getElem hk]
              exact hkp
            · exact HNI.out j (by omega))
          clear HNT HNI HC HW HQN HOUT hR1 hR2 ht0
          go_wp2_with fail
          go_roundg (n - (i + 1))
          case rel => exact ⟨i + 1, by omega, by go_num, rfl, HN2⟩
          case measure => omega

/-- A new list without elements. -/
theorem OwnI.empty (w : World) : OwnI w [] (w.alloc (.cells #[] 3)) (some ⟨w.heap.size, 0, none⟩) 0 0 := by
  refine ⟨rfl, ?_, below_al w _, fun k hk => by cases hk; exact Nat.le_refl _⟩
  have := row_new (size := 1) (n := 0) (heap_alloc_new w (.cells #[] 3)) rfl (by unfold maxLen; omega)
  exact this

set_option maxRecDepth 100000 in
set_option maxHeartbeats 2000000 in
theorem rholds_any {w : World} {X : List Value} {b : Nat} {ao : Option Addr} {co : Nat} {aq : Option Addr} {cq : Nat} {os : List Int} {es : List Qe} (h : LB w 54 X b ao co aq cq os es) (h8 : os.length ≤ 8) (p : Int) :
    Calls Try.prog 35 #[.pointer (some ⟨b, 0, none⟩), .int .i64 p] w fun e w' => ∃ a n c, e = .returned (.slice a n c) ∧ OwnI w (hold os p) w' a n c := by
  have HC : Hid (∀ i, i < os.length → ∀ wr, Below w.heap.size w wr → ∃ g, ao = some ⟨g, 0, none⟩ ∧ wr.cell? ⟨g, i, none⟩ = some (.int .i64 (oAt os i))) := hd (fun i hi wr hb => (h.below hb).owner i hi)
  have HC0 : Hid (∀ wr, Below w.heap.size w wr → wr.cell? ⟨b, 0, none⟩ = some (.slice ao os.length co)) := hd (fun wr hb => (h.below hb).c0)
  obtain ⟨n, hN⟩ : ∃ n, Hid (os.length = n) := ⟨_, rfl⟩
  rw [hN.out] at HC HC0 h8
  have HEND : Hid (hold os p = holdTo os p n) := hd (by unfold hold; rw [hN.out])
  rw [HEND.out]
  obtain ⟨w1, hw1⟩ : ∃ W, Hid (w.alloc (.cells #[] 3) = W) := ⟨_, rfl⟩
  have HS := hd (OwnI.empty w)
  rw [hw1.out] at HS
  clear h HEND
  go_enter Try.func35, Try.ntmps35
  go_upto_region 2 with fail
  rw [hw1.out]
  obtain ⟨G, hG⟩ : ∃ G, Hid (w.heap.size = G) := ⟨_, rfl⟩
  rw [hG.out]
  have HS2 : Hid (OwnI w [] w1 (some ⟨G, 0, none⟩) 0 0) := hd (by have := HS.out; rw [hG.out] at this; exact this)
  clear HS hw1
  go_wp2_with fail
  go_loopg [5, 6, 8, 9, 10, 11, 12, 13, 14, 15, 16, 17, 18, 19, 20, 21, 22, 23, 24, 25, 26, 27, 28, 29, 30, 31, 32, 33] n (fun k v5 v6 v8 v9 v10 v11 v12 v13 v14 v15 v16 v17 v18 v19 v20 v21 v22 v23 v24 v25 v26 v27 v28 v29 v30 v31 v32 v33 wr => ∃ (i nn c : Nat) (a : Option Addr), i + k = n ∧ v6 = .int .i64 (i : Int) ∧ v5 = .slice a nn c ∧ nn ≤ i ∧ Hid (OwnI w (holdTo os p i) wr a nn c))
  case atStart => exact ⟨0, 0, 0, _, by omega, by go_num, rfl, Nat.le_refl _, HS2⟩
  case round =>
    obtain ⟨i, nn, c, a, hik, rfl, rfl, hnn, HW⟩ := hrel
    clear HS2
    have c0 := HC0.out wr HW.out.2.2.1
    by_cases h0 : gk = 0
    · subst h0
      have hi : i = n := by omega
      subst hi
      clear hik HC HC0 hN
      go_wp2_with fail
      go_ret
      exact ⟨a, nn, c, rfl, HW.out⟩
    · have hlt : i < n := by omega
      by_cases hp : 0 ≤ p
      · obtain ⟨g, rfl, ci⟩ := HC.out i hlt wr HW.out.2.2.1
        have HS := hd (holdTo_succ os p i)
        generalize oAt os i = v at *
        by_cases h2 : v = p
        · obtain ⟨a', c', w', hap, ho⟩ := HW.out.push (by omega) (i : Int)
          have HW2 : Hid (OwnI w (holdTo os p (i + 1)) w' a' (nn + 1) c') := hd (by rw [HS.out, if_pos ⟨by omega, h2⟩]; exact ho)
          subst h2
          replace hap := hd hap
          clear HS HW ho HC HC0
          go_wp2_with (first | (at_builtin; refine wpList_append_run rfl _ _ _ rfl _ _ _ _ rfl rfl hap.out ?_; clear hap))
          go_roundg (gk - 1)
          case rel => exact ⟨i + 1, nn + 1, c', a', by omega, by go_num, rfl, by omega, HW2⟩
          case measure => omega
        · have h2' : (v == p) = false := by simpa using h2
          have HW2 : Hid (OwnI w (holdTo os p (i + 1)) wr a nn c) := hd (by rw [HS.out, if_neg (fun e => h2 e.2), List.append_nil]; exact HW.out)
          clear HS HW h2 HC HC0
          go_wp2_with fail
          go_roundg (gk - 1)
          case rel => exact ⟨i + 1, nn, c, a, by omega, by go_num, rfl, by omega, HW2⟩
          case measure => omega
      · have hp' : decide (0 ≤ p) = false := by simpa using hp
        have hnil : ∀ k, holdTo os p k = [] := fun k => by
          unfold holdTo
          simp [hp']
        have HE : Hid (OwnI w (holdTo os p n) wr a nn c) := hd (by rw [hnil n]; have := HW.out; rw [hnil i] at this; exact this)
        clear HC HC0 HW hnil hp
        go_wp2_with fail
        go_ret
        exact ⟨a, nn, c, rfl, HE.out⟩
end Go.Proofs.Ytdihbbpndijdoaa
