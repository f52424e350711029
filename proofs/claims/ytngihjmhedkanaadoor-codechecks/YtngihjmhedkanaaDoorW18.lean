/- CodeMays, CodeReturns. -/
import Derived.Test.YtngihjmhedkanaaDoorW17
namespace Go.Proofs.YtngihjmhedkanaaDoor
open Go.RowKit

theorem Prg.take {w : World} {a : Option Addr} {l : List Ins} (h : Prg w a l) (m : Nat) : Prg w a (l.take m) := fun i hi => by
  have hi' : i < l.length := by simp at hi; omega
  have him : i < m := by simp at hi; omega
  obtain ⟨b, off, e, hc⟩ := h i hi'
  refine ⟨b, off, e, ?_⟩
  have e2 : (l.take m).getD i default = l.getD i default := by simp [List.getD_eq_getElem?_getD, him]
  rw [e2]
  exact hc

theorem encB_bytes (l : List Ins) : ∀ i, (encB l).getD i 0 < 256 := by
  intro i
  rw [List.getD_eq_getElem?_getD]
  cases hi : (encB l)[i]? with
  | none => simp
  | some b =>
    have hm := List.mem_of_getElem? hi
    simp only [encB, List.mem_flatMap] at hm
    obtain ⟨x, _, hx⟩ := hm
    simp only [insB, List.mem_append, List.mem_cons, List.not_mem_nil, or_false, List.mem_map] at hx
    rcases hx with (rfl | rfl | rfl | rfl) | ⟨j, _, rfl⟩
    · exact b8_lt _
    · exact b8_lt _
    · exact b8_lt _
    · exact b8_lt _
    · exact byteAt_lt _ _

theorem nil_string (w : World) : (convert 35 9 (.slice none 0 0)).run Tryd.prog w = .ok (.string ⟨(toU []).toArray⟩) w :=
  string_any (a := none) (bs := []) (fun i hi => absurd hi (Nat.not_lt_zero i)) (fun i => by simp) (fun _ => rfl)

theorem own_string {w : World} {B g cap : Nat} {l : List Ins} (h : w.ownsRow B 5 1 (.slice (some ⟨g, 0, none⟩) (12 * l.length) cap) (12 * l.length) (bCells (encB l))) :
    (convert 35 9 (.slice (some ⟨g, 0, none⟩) (12 * l.length) cap)).run Tryd.prog w = .ok (.string ⟨(toU (encB l)).toArray⟩) w := by
  have hB := byt_of_owns h
  have := string_any (cap := cap) hB.1 (encB_bytes l) (fun h => by cases h)
  rw [encB_len] at this
  exact this

set_option maxRecDepth 100000 in
set_option maxHeartbeats 4000000 in
theorem codeMays_walk (a : Option Addr) (cap : Nat) (l : List Ins) (k : Int) (w : World) (hP : Prg w a l) (hlc : l.length ≤ cap) (hF : Fld w) :
    Calls Tryd.prog 5 #[.slice a l.length cap, .int .i64 k] w fun e w' => e = .returned (.bool true) ∧ Below w.heap.size w w' := by
  have haw := awake_any w hF
  have HF : Hid (Fld w) := hF
  obtain ⟨L, hLd⟩ : ∃ L, Hid (L = l.take 1048576) := ⟨_, rfl⟩
  have hLl : L.length = min l.length 1048576 := by rw [hLd.out, List.length_take, Nat.min_comm]
  have HP : Hid (Prg w a L) := hd (by rw [hLd.out]; exact hP.take _)
  have hsh : ∀ W, Calls Tryd.prog 14 #[.slice a l.length cap] W fun e w' => e = .returned (.slice a L.length L.length) ∧ w' = W := fun W => by
    have := short_any a l.length cap W hlc
    rw [← hLl] at this
    exact this
  clear hF hP hlc hLl hLd
  go_enter Tryd.func5, Tryd.ntmps5
  go_wp2_with fail
  refine haw.mono ?_
  rintro e w1 ⟨rfl, b1⟩
  go_wp2_with fail
  refine (hsh w1).mono ?_
  rintro e w2 ⟨rfl, rfl⟩
  have h3 := may_any a L.length L k w2 (HP.out.kept b1) (HF.out.kept b1)
  clear haw hsh
  go_wp2_with fail
  refine h3.mono ?_
  rintro e w3 ⟨rfl, b3⟩
  have bw3 := b1.trans (b3.mono b1.size)
  have h4 := rmay_any a L.length L k w3 (HP.out.kept bw3)
  clear h3 b1 b3
  go_wp2_with fail
  refine h4.mono ?_
  rintro e w4 ⟨rfl, b4⟩
  have bw4 := bw3.trans (b4.mono bw3.size)
  clear h4 bw3 b4
  generalize mayL L k = R
  obtain ⟨E, A⟩ := R
  simp only
  by_cases hm : (mayL L 8).1 = 0
  · have h5 := encode_ok a L.length L w4 (HP.out.kept bw4) (HF.out.kept bw4) hm
    go_wp2_with fail
    refine h5.mono ?_
    rintro e w5 ⟨g5, c5, rfl, o5, b5⟩
    have bw5 := bw4.trans (b5.mono bw4.size)
    have h6 := rencode_ok a L.length L w5 (HP.out.kept bw5) hm
    clear h5 bw4 b5
    go_wp2_with fail
    refine h6.mono ?_
    rintro e w6 ⟨g6, c6, rfl, o6, b6⟩
    have bw6 := bw5.trans (b6.mono bw5.size)
    have s1 := own_string (owns_below o5 b6)
    have s2 := own_string o6
    clear h6 bw5 b6 o5 o6 hm HP HF
    generalize toU (encB L) = S at s1 s2
    go_wp2_with fail
    go_ret
    exact ⟨rfl, bw6⟩
  · have h5 := encode_no a L.length L w4 (HP.out.kept bw4) (HF.out.kept bw4) hm
    go_wp2_with fail
    refine h5.mono ?_
    rintro e w5 ⟨rfl, b5⟩
    have bw5 := bw4.trans (b5.mono bw4.size)
    have h6 := rencode_no a L.length L w5 (HP.out.kept bw5) hm
    clear h5 bw4 b5
    go_wp2_with fail
    refine h6.mono ?_
    rintro e w6 ⟨rfl, b6⟩
    have bw6 := bw5.trans (b6.mono bw5.size)
    have s1 := nil_string w6
    clear h6 bw5 b6 hm HP HF
    generalize toU [] = S at s1
    generalize mayL L 8 = R
    obtain ⟨E8, A8⟩ := R
    simp only
    go_wp2_with fail
    go_ret
    exact ⟨rfl, bw6⟩

set_option maxRecDepth 100000 in
set_option maxHeartbeats 8000000 in
theorem codeReturns_walk (a : Option Addr) (cap : Nat) (l : List Ins) (a2 : Option Addr) (cc : Nat) (bs : List Nat) (w : World) (hP : Prg w a l) (hlc : l.length ≤ cap) (hfit : ∀ x ∈ l, Fit x)
    (hB : Byt w a2 bs) (hb : ∀ i, bs.getD i 0 < 256) (hbc : bs.length ≤ cc) (hbn : a2 = none → cc = 0) (hF : Fld w) :
    Calls Tryd.prog 7 #[.slice a l.length cap, .slice a2 bs.length cc] w fun e w' => e = .returned (.bool true) ∧ Below w.heap.size w w' := by
  have haw := awake_any w hF
  have HF : Hid (Fld w) := hF
  have HB : Hid (Byt w a2 bs) := hB
  have Hb : Hid (∀ i, bs.getD i 0 < 256) := hb
  obtain ⟨L, hLd⟩ : ∃ L, Hid (L = l.take 1048576) := ⟨_, rfl⟩
  have hLl : L.length = min l.length 1048576 := by rw [hLd.out, List.length_take, Nat.min_comm]
  have HP : Hid (Prg w a L) := hd (by rw [hLd.out]; exact hP.take _)
  have HFit : Hid (∀ x ∈ L, Fit x) := hd (by rw [hLd.out]; exact fun x hx => hfit x (List.mem_of_mem_take hx))
  have hsh : ∀ W, Calls Tryd.prog 14 #[.slice a l.length cap] W fun e w' => e = .returned (.slice a L.length L.length) ∧ w' = W := fun W => by
    have := short_any a l.length cap W hlc
    rw [← hLl] at this
    exact this
  clear hF hP hlc hLl hLd hB hb hfit
  go_enter Tryd.func7, Tryd.ntmps7
  go_wp2_with fail
  refine haw.mono ?_
  rintro e w1 ⟨rfl, b1⟩
  go_wp2_with fail
  refine (hsh w1).mono ?_
  rintro e w2 ⟨rfl, rfl⟩
  clear haw hsh
  by_cases hm : (mayL L 8).1 = 0
  · have hlen := may_len hm
    have h3 := encode_ok a L.length L w2 (HP.out.kept b1) (HF.out.kept b1) hm
    go_wp2_with fail
    refine h3.mono ?_
    rintro e w3 ⟨g3, c3, rfl, o3, b3⟩
    have bw3 := b1.trans (b3.mono b1.size)
    have hB3 := byt_of_owns o3
    have hde := dec_enc L hm HFit.out
    have h4 := decode_any (some ⟨g3, 0, none⟩) c3 (encB L) w3 hB3.1 (HF.out.kept bw3) (encB_bytes L) (by rw [hB3.2.1]; exact hB3.2.2)
    rw [hB3.2.1] at h4
    clear h3 b1 b3 o3
    go_wp2_with fail
    refine h4.mono ?_
    intro e w4 h4'
    obtain ⟨g4, c4, rfl, o4, b4⟩ := decPost_ok h4' (by rw [hde.1])
    rw [show (encB L).length / 12 = L.length by rw [encB_len]; omega, hde.2] at o4
    rw [show (encB L).length / 12 = L.length by rw [encB_len]; omega]
    have bw4 := bw3.trans (b4.mono bw3.size)
    have hsame := same_yes (some ⟨g4, 0, none⟩) a c4 L.length L w4 (by omega) (prg_of_owns o4).1 (HP.out.kept bw4)
    clear h4 h4' b4 o4 bw3 hB3 hde
    go_wp2_with fail
    refine hsame.mono ?_
    rintro e w4' ⟨rfl, n4, rfl⟩
    obtain ⟨W4, hW4⟩ : ∃ W, Hid (W = w4.drewN n4) := ⟨_, rfl⟩
    have bX : Below w.heap.size w W4 := by rw [hW4.out]; exact below_drewN bw4 n4
    rw [← hW4.out]
    clear hW4 hsame bw4
    have hdd := decode_any a2 cc bs W4 (HB.out.kept bX) (HF.out.kept bX) Hb.out hbc
    go_wp2_with fail
    refine hdd.mono ?_
    intro e w5 h5
    by_cases hr : (decR bs).1 = 0
    · obtain ⟨g5, c5, rfl, o5, b5⟩ := decPost_ok h5 hr
      have bw5 := bX.trans (b5.mono bX.size)
      have P5 := (prg_of_owns o5).1
      obtain ⟨hl1, hl2, _⟩ := decR_ok hr
      have henc := encode_ok (some ⟨g5, 0, none⟩) c5 (decL bs (bs.length / 12)) w5 P5 (HF.out.kept bw5) (by rw [may_dec bs hr])
      rw [decL_len, enc_dec bs _ Hb.out hl2] at henc
      have HL2 : Hid (bs.length = 12 * (bs.length / 12)) := hl2
      clear hdd h5 o5 b5 hl2
      go_wp2_with fail
      refine henc.mono ?_
      rintro e w6 ⟨g6, c6, rfl, o6, b6⟩
      have bw6 := bw5.trans (b6.mono bw5.size)
      have hmay := may_any (some ⟨g5, 0, none⟩) c5 (decL bs (bs.length / 12)) 8 w6 (P5.kept b6) (HF.out.kept bw6)
      rw [may_dec bs hr, decL_len] at hmay
      clear henc P5 b6
      go_wp2_with fail
      refine hmay.mono ?_
      rintro e w7 ⟨rfl, b7⟩
      have bw7 := bw6.trans (b7.mono bw6.size)
      have o7 := owns_below o6 b7
      have s1 : (convert 35 9 (.slice (some ⟨g6, 0, none⟩) (12 * (bs.length / 12)) c6)).run Tryd.prog w7 = .ok (.string ⟨(toU bs).toArray⟩) w7 := by
        rw [← HL2.out]
        exact string_any (byt_of_owns o7).1 Hb.out (fun h => by cases h)
      have s2 := string_any (HB.out.kept bw7) Hb.out hbn
      clear hmay o6 o7 b7 bw6
      generalize toU bs = S at s1 s2
      go_wp2_with fail
      go_ret
      exact ⟨rfl, bw7⟩
    · obtain ⟨rfl, b5⟩ := decPost_no h5 hr
      have bw5 := bX.trans (b5.mono bX.size)
      have hpl := decR_place bs
      clear hdd h5 b5
      generalize decR bs = R at *
      obtain ⟨E, A⟩ := R
      simp only at *
      have dE : (E == 0) = false := by simpa using hr
      have p1 : 0 ≤ A := hpl.1
      have p2 : A ≤ (bs.length : Int) := hpl.2.1
      clear hpl hr
      go_wp2_with fail
      go_ret
      exact ⟨rfl, bw5⟩
  · have h3 := encode_no a L.length L w2 (HP.out.kept b1) (HF.out.kept b1) hm
    have hpm := mayL_place L 8
    generalize mayL L 8 = R at *
    obtain ⟨E1, A1⟩ := R
    simp only at *
    have dE1 : (E1 == 0) = false := by simpa using hm
    have q1 : decide (A1 < 0) = false := by have := hpm.1; simp; omega
    have q2 : decide ((L.length : Int) < A1) = false := by have := hpm.2.1; simp; omega
    clear hpm hm
    go_wp2_with fail
    refine h3.mono ?_
    rintro e w3 ⟨rfl, b3⟩
    have bX := b1.trans (b3.mono b1.size)
    clear h3 b1 b3
    have hdd := decode_any a2 cc bs w3 (HB.out.kept bX) (HF.out.kept bX) Hb.out hbc
    go_wp2_with fail
    refine hdd.mono ?_
    intro e w5 h5
    by_cases hr : (decR bs).1 = 0
    · obtain ⟨g5, c5, rfl, o5, b5⟩ := decPost_ok h5 hr
      have bw5 := bX.trans (b5.mono bX.size)
      have P5 := (prg_of_owns o5).1
      obtain ⟨hl1, hl2, _⟩ := decR_ok hr
      have henc := encode_ok (some ⟨g5, 0, none⟩) c5 (decL bs (bs.length / 12)) w5 P5 (HF.out.kept bw5) (by rw [may_dec bs hr])
      rw [decL_len, enc_dec bs _ Hb.out hl2] at henc
      have HL2 : Hid (bs.length = 12 * (bs.length / 12)) := hl2
      clear hdd h5 o5 b5 hl2
      go_wp2_with fail
      refine henc.mono ?_
      rintro e w6 ⟨g6, c6, rfl, o6, b6⟩
      have bw6 := bw5.trans (b6.mono bw5.size)
      have hmay := may_any (some ⟨g5, 0, none⟩) c5 (decL bs (bs.length / 12)) 8 w6 (P5.kept b6) (HF.out.kept bw6)
      rw [may_dec bs hr, decL_len] at hmay
      clear henc P5 b6
      go_wp2_with fail
      refine hmay.mono ?_
      rintro e w7 ⟨rfl, b7⟩
      have bw7 := bw6.trans (b7.mono bw6.size)
      have o7 := owns_below o6 b7
      have s1 : (convert 35 9 (.slice (some ⟨g6, 0, none⟩) (12 * (bs.length / 12)) c6)).run Tryd.prog w7 = .ok (.string ⟨(toU bs).toArray⟩) w7 := by
        rw [← HL2.out]
        exact string_any (byt_of_owns o7).1 Hb.out (fun h => by cases h)
      have s2 := string_any (HB.out.kept bw7) Hb.out hbn
      clear hmay o6 o7 b7 bw6
      generalize toU bs = S at s1 s2
      go_wp2_with fail
      go_ret
      exact ⟨rfl, bw7⟩
    · obtain ⟨rfl, b5⟩ := decPost_no h5 hr
      have bw5 := bX.trans (b5.mono bX.size)
      have hpl := decR_place bs
      clear hdd h5 b5
      generalize decR bs = R at *
      obtain ⟨E, A⟩ := R
      simp only at *
      have dE : (E == 0) = false := by simpa using hr
      have p1 : 0 ≤ A := hpl.1
      have p2 : A ≤ (bs.length : Int) := hpl.2.1
      clear hpl hr
      go_wp2_with fail
      go_ret
      exact ⟨rfl, bw5⟩
end Go.Proofs.YtngihjmhedkanaaDoor
