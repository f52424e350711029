/- The walks of ScriptNames, ScriptMays, ScriptReads. -/
import Derived.Test.YtnkanaccacephaaSWC
namespace Go.Proofs.Ytnkanaccacephaa
open Go.RowKit


theorem encF_byte (l : List Stp) : Byte (encF l) := by
  unfold encF
  split
  · exact enc_byte l
  · intro i
    simp
theorem decF_len {bs : List Nat} (hb : Byte bs) : (decF bs).1.length ≤ 1024 := by
  rcases decF_cases hb with ⟨l, h, hok, _⟩ | ⟨e, a, h, _⟩
  · rw [h]
    exact ((mayS_iff l).1 hok.1).1
  · rw [h]
    exact Nat.zero_le _

set_option maxRecDepth 100000 in
theorem scriptNames_any (w : World) : Calls Try.prog 3 #[] w fun e w' => e = .returned (.bool true) ∧ Below w.heap.size w w' := by
  have h1 := awake_any w
  go_enter Try.func3, Try.ntmps3
  go_wp2_with (go_at_call 8; refine h1.mono ?_; rintro e w1 ⟨rfl, b1⟩; replace b1 := hd b1)
  go_ret
  exact ⟨rfl, b1.out⟩

set_option maxRecDepth 100000 in
set_option maxHeartbeats 2000000 in
theorem scriptMays_any (a : Option Addr) (cap : Nat) (l : List Stp) (w : World) (hP : Rd w a (sCells l)) (hlen : l.length ≤ 9223372036854775807) :
    Calls Try.prog 4 #[.slice a l.length cap] w fun e w' => e = .returned (.bool true) ∧ Below w.heap.size w w' := by
  have h0 := awake_any w
  have HP := hd hP
  have HM : Hid (∀ W, Below w.heap.size w W → _) := hd (fun W hW => may_any a cap l W (HP.out.below hW) (by omega))
  have HR : Hid (∀ W, Below w.heap.size w W → _) := hd (fun W hW => rmay_any a cap l W (HP.out.below hW) (by omega))
  have HE : Hid (∀ W, Below w.heap.size w W → _) := hd (fun W hW => encode_any a cap l W (HP.out.below hW) (by omega))
  have HF : Hid (∀ W, Below w.heap.size w W → _) := hd (fun W hW => rencode_any a cap l W (HP.out.below hW) (by omega))
  have HB := hd (encF_byte l)
  clear hP
  go_enter Try.func4, Try.ntmps4
  go_upto_region 3 with (go_at_call 8; refine h0.mono ?_; rintro e w1 ⟨rfl, b1⟩)
  have h1 := HM.out w1 b1
  go_upto_region 4 with (go_at_call 9; refine h1.mono ?_; rintro e w2 ⟨rfl, b2⟩; replace b2 := b1.trans (b2.mono b1.size))
  clear h0 h1 b1
  have h2 := HR.out w2 b2
  go_upto_region 5 with (go_at_call 10; refine h2.mono ?_; rintro e w3 ⟨rfl, b3⟩; replace b3 := b2.trans (b3.mono b2.size))
  clear h2 b2
  have h3 := HE.out w3 b3
  go_upto_region 6 with (go_at_call 11; refine h3.mono ?_; rintro e w4 ⟨a4, c4, rfl, r4, -, b4⟩; replace b4 := b3.trans (b4.mono b3.size))
  clear h3 b3
  have h4 := HF.out w4 b4
  have r4' := hd r4
  go_upto_region 7 with (go_at_call 12; refine h4.mono ?_; rintro e w5 ⟨a5, c5, rfl, r5, -, b5⟩)
  clear h4 r4
  have s1 := string_rd (w := w5) (r4'.out.below b5).rd HB.out (row_zero (r4'.out.below b5))
  have s2 := string_rd (w := w5) r5.rd HB.out (row_zero r5)
  replace b5 := hd (b4.trans (b5.mono b4.size))
  clear b4 r4' r5 HM HR HE HF HP HB
  generalize (mayS l).1 = E at *
  generalize (mayS l).2 = D at *
  generalize (encF l).length = n at *
  generalize toU (encF l) = X at *
  go_wp2_with fail
  go_ret
  exact ⟨rfl, b5.out⟩

set_option maxRecDepth 100000 in
set_option maxHeartbeats 2000000 in
theorem scriptReads_any (a : Option Addr) (cap : Nat) (bs : List Nat) (w : World) (hR : Rd w a (bCells bs)) (hb : Byte bs) (hcap : bs.length ≤ cap) :
    Calls Try.prog 5 #[.slice a bs.length cap] w fun e w' => e = .returned (.bool true) ∧ Below w.heap.size w w' := by
  have h0 := awake_any w
  have HR := hd hR
  have HL := decF_len hb
  have HD : Hid (∀ W, Below w.heap.size w W → _) := hd (fun W hW => decode_any a cap bs W (HR.out.below hW) hb hcap)
  have HE : Hid (∀ W, Below w.heap.size w W → _) := hd (fun W hW => Doc.rdecode_any a cap bs W (HR.out.below hW) hb hcap)
  clear hR
  go_enter Try.func5, Try.ntmps5
  go_upto_region 3 with (go_at_call 8; refine h0.mono ?_; rintro e w1 ⟨rfl, b1⟩)
  have h1 := HD.out w1 b1
  go_upto_region 4 with (go_at_call 13; refine h1.mono ?_; rintro e w2 ⟨a2, c2, rfl, r2, -, b2⟩; replace b2 := b1.trans (b2.mono b1.size))
  clear h0 h1 b1
  have h2 := HE.out w2 b2
  have r2' := hd r2
  clear r2
  go_upto_region 5 with (go_at_call 14; refine h2.mono ?_; rintro e w3 ⟨a3, c3, rfl, r3, -, b3⟩)
  have hs := same_yes a2 a3 c2 c3 (decF bs).1 w3 (by omega) (r2'.out.below b3).rd r3.rd
  replace b3 := hd (b2.trans (b3.mono b2.size))
  clear h2 b2 r2' r3 HD HE HR
  generalize (decF bs).1.length = n at *
  generalize (decF bs).2.1 = E at *
  generalize (decF bs).2.2 = D at *
  go_wp2_with (go_at_call 15; refine hs.mono ?_; rintro e w4 ⟨rfl, hw4⟩; replace hw4 := hd hw4)
  go_ret
  refine ⟨rfl, ?_⟩
  obtain ⟨n, rfl⟩ := hw4.out
  exact b3.out.trans ((below_draw w3 n).mono b3.out.size)
end Go.Proofs.Ytnkanaccacephaa
