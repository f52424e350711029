/- Which edges count, as the program has it: counting. -/
import Derived.Test.YtcmcapddijpidaaGW1
namespace Go.Proofs.Ytcmcapddijpidaa
open Go.RowKit Go.Maps

set_option maxRecDepth 100000 in
set_option maxHeartbeats 4000000 in
theorem counting_any {w : World} {a : Option Addr} {n cp : Nat} {e : Es} (hR : Rd w a (wC e)) (hF : FitE e) (hN : Hid (e.length = n)) (h8 : n < 6000000000000) :
    Calls Try.prog 13 #[.slice a n cp] w fun x w' => NxOut w e x w' := by
  have hmm : ∀ W : World, (Instr.makeMap 29 none).run Try.prog W = .ok (.map (some W.heap.size)) (W.alloc (.map #[] 0)) := fun W => rfl
  have HS := hd (NxI.start e w)
  have HR := hd hR
  have HF := hd hF
  clear hR hF
  go_enter Try.func13, Try.ntmps13
  go_upto_region 2 with fail
  obtain ⟨m, hm⟩ : ∃ m, Hid (w.heap.size = m) := ⟨_, rfl⟩
  obtain ⟨w1, hw1⟩ : ∃ W, Hid (w.alloc (.map #[] 0) = W) := ⟨_, rfl⟩
  have HS2 : Hid (NxI w w1 m e 0) := hd (by rw [← hw1.out, ← hm.out]; exact HS.out)
  try simp only [hm.out, hw1.out]
  clear HS hmm hm hw1
  go_wp2_with fail
  go_loopg [5, 6, 7, 8, 9, 13, 14, 15, 16, 17, 18, 19, 20, 21, 22, 23, 24, 25, 26, 27, 28, 29, 30, 31, 32, 33, 34, 35, 36, 37] n (fun k v5 v6 v7 v8 v9 v13 v14 v15 v16 v17 v18 v19 v20 v21 v22 v23 v24 v25 v26 v27 v28 v29 v30 v31 v32 v33 v34 v35 v36 v37 wr => ∃ i : Nat, i + k = n ∧ v13 = .int .i64 (i : Int) ∧ Hid (NxI w wr m e i))
  case atStart => exact ⟨0, by omega, by go_num, HS2⟩
  case round =>
    obtain ⟨i, hik, rfl, HX⟩ := hrel
    clear HS2
    by_cases h0 : gk = 0
    · subst h0
      have hi : i = n := by omega
      subst hi
      have HE := hd (NxI.end (by rw [hN.out]; exact HX.out))
      clear HX hik HR HF
      go_wp2_with fail
      go_ret
      exact HE.out
    · have hlt : i < n := by omega
      have hie : i < e.length := by rw [hN.out]; exact hlt
      obtain ⟨p, q, hx⟩ : ∃ p q, Hid (e.getD i (0, 0) = (p, q)) := ⟨_, _, rfl⟩
      obtain ⟨g, o, rfl, c1, c2⟩ := rd_pair (HR.out.mod (S := fun _ => False) (fun _ _ _ h => h) (Mod.of_below _ HX.out.bel)) i hie
      rw [hx.out] at c1 c2
      have hp : Fit64 p := by have := (HF.out _ (e_mem hie)).1; rw [hx.out] at this; exact this
      have hq : Fit64 q := by have := (HF.out _ (e_mem hie)).2; rw [hx.out] at this; exact this
      go_upto_region 5 with fail
      obtain ⟨G, hG⟩ : ∃ G, Hid (wr.heap.size = G) := ⟨_, rfl⟩
      obtain ⟨wa, hwa⟩ : ∃ W, Hid (wr.alloc (.cells #[.int .i64 p, .int .i64 q] 24) = W) := ⟨_, rfl⟩
      have x0 : wa.cell? ⟨G, 0, none⟩ = some (.int .i64 p) := by rw [← hwa.out, ← hG.out]; simp
      have x1 : wa.cell? ⟨G, 1, none⟩ = some (.int .i64 q) := by rw [← hwa.out, ← hG.out]; simp
      have HY : Hid (NxI w wa m e i) := hd (HX.out.below (by rw [← hwa.out]; exact below_al wr _))
      try simp only [hG.out, hwa.out]
      clear HX hwa hG c1 c2
      go_region
      go_upto_region 6 with fail
      obtain ⟨wb, hwb⟩ : ∃ W, Hid (wa.drew = W) := ⟨_, rfl⟩
      have HZ : Hid (NxI w wb m e i) := hd (by rw [← hwb.out]; exact HY.out.below ((Below.refl _ wa).drew))
      rw [hwb.out]
      clear HY hwb x0 x1
      have hlk := HZ.out.look hp
      cases hs : nxs (e.take i) p with
      | none =>
        obtain ⟨w2, hst, hI⟩ := HZ.out.put hie (by omega) hx.out hp hq (.inl (by rw [hs]; rfl))
        rw [hs] at hlk
        have HE := hd hI
        clear HZ hx hp hq hs h0 hie hI
        go_wp2_with fail
        go_roundg (gk - 1)
        case rel => exact ⟨i + 1, by omega, by go_num, HE⟩
        case measure => omega
      | some l =>
        rw [hs] at hlk
        by_cases hl : q < l
        · obtain ⟨w2, hst, hI⟩ := HZ.out.put hie (by omega) hx.out hp hq (.inr (by rw [hs]; exact hl))
          have hl' : decide (q < l) = true := by simpa using hl
          have HE := hd hI
          clear HZ hx hp hq hs h0 hie hI hl
          go_wp2_with fail
          go_roundg (gk - 1)
          case rel => exact ⟨i + 1, by omega, by go_num, HE⟩
          case measure => omega
        · have HE := hd (HZ.out.stay hie hx.out hs hl)
          have hl' : decide (q < l) = false := by simpa using hl
          clear HZ hx hp hq hs h0 hie hl
          go_wp2_with fail
          go_roundg (gk - 1)
          case rel => exact ⟨i + 1, by omega, by go_num, HE⟩
          case measure => omega
end Go.Proofs.Ytcmcapddijpidaa
