/- The document's side: units. -/
import Derived.Test.YtehapcoppghppaaDoorVR3
namespace Go.Proofs.YtehapcoppghppaaDoor
open Go.RowKit

set_option maxRecDepth 100000 in
set_option maxHeartbeats 4000000 in
theorem units_body (w0 : World) (a : Option Addr) (cap : Nat) (l : List Ins) (gr gl go M n : Nat) (G : Nat → Int) (o : Nat → Bool) (w : World) (hP : Prg w0 a l) (ok : Ok l) (hM : 256 * (l.length + 1) = M)
    (hU : US w0 w a l.length cap gr gl go M G o) (hL : LI l G) (hn : n < M) (hO : n % 256 ≠ 0 → ∀ i, o i = true → Pls l i n)
    (ih : o n = false → ∀ (t : Nat) (G' : Nat → Int) (w' : World), US w0 w' a l.length cap gr gl go M G' (mark o n) → LI l G' → t < M → (t % 256 ≠ 0 → ∀ i, mark o n i = true → Pls l i t) → Calls Tryd.prog 26 #[.pointer (some ⟨gr, 0, none⟩), .int .i64 (t : Int)] w' (UPost l w0 w' a cap gr gl go M (mark o n) t)) :
    Calls Tryd.prog 26 #[.pointer (some ⟨gr, 0, none⟩), .int .i64 (n : Int)] w (UPost l w0 w a cap gr gl go M o n) := by
  have HP : Hid (Prg w0 a l) := hP
  have HOk : Hid (Ok l) := ok
  have HU : Hid (US w0 w a l.length cap gr gl go M G o) := hU
  have HL : Hid (LI l G) := hL
  have HO : Hid (n % 256 ≠ 0 → ∀ i, o i = true → Pls l i n) := hO
  have HM : Hid (256 * (l.length + 1) = M) := hM
  have hl256 := ok.len
  have hMb : M ≤ 70000 := by omega
  obtain ⟨Q, hQ⟩ : ∃ Q, Hid (UPost l w0 w a cap gr gl go M o n = Q) := ⟨_, rfl⟩
  rw [hQ.out]
  have q4 : (n : Int).tmod 256 = ((n % 256 : Nat) : Int) := by rw [Int.tmod_eq_emod_of_nonneg (by omega)]; omega
  have hnM' : (n : Int) < (M : Int) := by omega
  obtain ⟨k0, k1, k2, kL, kO, d1, d2, d3, kb⟩ := hU
  have cl := kL.cell n hn
  have co := kO.cell n hn
  have fo := kO.free n
  unfold iF at cl
  clear kL kO kb hP ok hM hL hO
  obtain ⟨s, hs⟩ : ∃ s, Hid (n % 256 = s) := ⟨_, rfl⟩
  rw [hs.out] at q4
  by_cases hs0 : s = 0
  · have d0 : ((s : Int) == 0) = true := by simp [hs0]
    have HF : Hid (Q (.returned (.int .i64 0)) w) := hd (by
      rw [← hQ.out]
      refine ⟨G, ?_, HU.out, HL.out, G2.refl _ _ _⟩
      rw [if_pos (by rw [hs.out]; exact hs0)])
    clear hs0
    go_enter Tryd.func26, Tryd.ntmps26
    go_wp2_with fail
    exact HF.out
  have d0 : ((s : Int) == 0) = false := by simp [hs0]
  have Hs0 : Hid (¬ n % 256 = 0) := hd (by rw [hs.out]; exact hs0)
  clear hs0
  by_cases ho : o n = true
  · rw [ho] at co
    have HF : Hid (Q (.returned (.int .i64 (-1))) w) := hd (by
      rw [← hQ.out]
      refine ⟨G, ?_, HU.out, HL.out, G2.refl _ _ _⟩
      rw [if_neg Hs0.out, cv_inf (un_ring (HO.out Hs0.out n ho))])
    go_enter Tryd.func26, Tryd.ntmps26
    go_wp2_with fail
    exact HF.out
  have hof : o n = false := by simpa using ho
  rw [hof] at co
  have ih := ih hof
  clear ho
  by_cases hg : G n = 0
  · rw [hg] at cl
    obtain ⟨u1, g1⟩ := HU.out.putO n true
    have HU1 : Hid (US w0 (w.setCell ⟨go, n, none⟩ (.bool true)) a l.length cap gr gl go M G (mark o n)) := hd u1
    have HG1 : Hid (G2 w (w.setCell ⟨go, n, none⟩ (.bool true)) gl go) := hd g1
    have hBe := fun (W : World) (h : Below w0.heap.size w0 W) => behind_any a cap l n W (HP.out.kept h) HOk.out (by rw [HM.out]; exact hn)
    have HPl : Hid (∀ t ∈ nxt l n, t % 256 ≠ 0 → ∀ i, mark o n i = true → Pls l i t) := hd (fun t ht h1 i hi => by
      have ht2 : t ∈ nx l n := by unfold nx; rw [List.mem_filter]; exact ⟨ht, by simpa using h1⟩
      rcases mark_or hi with rfl | hi
      · exact .one ht2
      · exact .more (HO.out Hs0.out i hi) ht2)
    have hfl : Hid (∀ t ∈ nxt l n, t < M) := hd (fun t ht => by have := nxt_lt HOk.out ht; rwa [HM.out] at this)
    have hfl2 : (nxt l n).length ≤ 2 := nxt_len l n
    clear u1 g1
    go_enter Tryd.func26, Tryd.ntmps26
    go_upto_region 8 with fail
    obtain ⟨w1, hw1⟩ : ∃ w1, Hid (w.setCell ⟨go, n, none⟩ (.bool true) = w1) := ⟨_, rfl⟩
    rw [hw1.out] at HU1 HG1 ⊢
    obtain ⟨k0, k1, k2, _, _, _, _, _, kb⟩ := HU1.out
    have hB := hBe w1 kb
    clear kb cl co fo hBe
    go_upto_region 10 with (go_at_call 32; refine hB.mono ?_; rintro e2 w2 ⟨v, rfl, o2, b2⟩)
    have HU2 : Hid (US w0 w2 a l.length cap gr gl go M G (mark o n)) := hd (HU1.out.after b2)
    have HG2 : Hid (G2 w w2 gl go) := hd (HG1.out.trans (.of_below _ _ b2))
    have HN2 : Hid (Ns w2 w1.heap.size v (nxt l n)) := hd o2
    have HNb : Hid (∀ b, v.ownBlock = some b → b ≠ gl ∧ b ≠ go ∧ b ≠ gr) := hd (fun b hb => by
      have h1 := (World.ownsRow.lt o2 b hb).1
      have h2 := HU1.out.long.lt.2
      have h3 := HU1.out.on.lt.2
      have h4 := World.block_lt_of_cell? w1 _ HU1.out.c0
      simp only at h4
      omega)
    obtain ⟨af, cf, rfl, hcf, _⟩ := o2.form
    have HS0 : Hid (Sofar l (nxt l n) 0 0) := hd ⟨fun h => by omega, fun _ j hj => absurd hj (Nat.not_lt_zero j), fun _ => .inl rfl, by omega⟩
    obtain ⟨fs, hfs⟩ : ∃ fs, Hid (nxt l n = fs) := ⟨_, rfl⟩
    rw [hfs.out] at HN2 HPl hfl hfl2 HS0 ⊢
    clear b2 o2 hB k0 k1 k2 hcf
    go_wp2_with fail
    go_loopg [5, 7] (fs.length) (fun k v5 v7 wr => ∃ (i : Nat) (z : Int) (G' : Nat → Int), v5 = .int .i64 z ∧ v7 = .int .i64 (i : Int) ∧ i + k = fs.length ∧ Hid (US w0 wr a l.length cap gr gl go M G' (mark o n) ∧ LI l G' ∧ G2 w wr gl go ∧ Ns wr w1.heap.size (.slice af fs.length cf) fs ∧ Sofar l fs i z))
    case atStart => exact ⟨0, 0, G, rfl, rfl, by omega, hd ⟨HU2.out, HL.out, HG2.out, HN2.out, HS0.out⟩⟩
    case round =>
      obtain ⟨i, z, G', rfl, rfl, hik, HH⟩ := hrel
      clear HU2 HG2 HN2 HS0
      have hzh := HH.out.2.2.2.2.hi
      by_cases hlt : i < fs.length
      · have hlt' : (i : Int) < (fs.length : Int) := by omega
        obtain ⟨a1, c1, e1, hc1, C1⟩ := HH.out.2.2.2.1.form
        obtain ⟨gf, ea, _, kf⟩ := C1 i hlt
        simp only [Value.slice.injEq] at e1
        obtain ⟨rfl, -, rfl⟩ := e1
        subst ea
        have hiu := ih (fs.getD i 0) G' wr HH.out.1 HH.out.2.1 (hfl.out _ (getD_mem hlt)) (HPl.out _ (getD_mem hlt))
        obtain ⟨k, hk⟩ : ∃ k : Int, Hid (k = if fs.getD i 0 % 256 = 0 then 0 else cv l (fs.getD i 0)) := ⟨_, hd rfl⟩
        have HSt : Hid (Sofar l fs (i + 1) (if k < 0 then -1 else if z < 0 then z else max z k)) := hd (HH.out.2.2.2.2.step HOk.out hlt k hk.out)
        unfold UPost at hiu
        rw [← hk.out] at hiu
        generalize fs.getD i 0 = t at *
        clear C1 hc1 hk
        go_upto_region 14 with (go_at_call 26; refine hiu.mono ?_; rintro e3 w3 ⟨G3, rfl, u3, l3, g3⟩)
        have HH3 : Hid (US w0 w3 a l.length cap gr gl go M G3 (mark o n) ∧ LI l G3 ∧ G2 w w3 gl go ∧ Ns w3 w1.heap.size (.slice (some ⟨gf, 0, none⟩) fs.length cf) fs) := hd ⟨u3, l3, HH.out.2.2.1.trans g3, owns_G2 HH.out.2.2.2.1 g3 (fun b hb => ⟨(HNb.out b hb).1, (HNb.out b hb).2.1⟩)⟩
        clear u3 l3 g3 kf hiu HH
        by_cases hk0 : k < 0
        · have HS : Hid (Sofar l fs (i + 1) (-1)) := hd (by have := HSt.out; rwa [if_pos hk0] at this)
          clear HSt
          go_wp2_with fail
          go_roundg (gk - 1)
          case measure => omega
          case rel => exact ⟨i + 1, -1, G3, rfl, by go_num, by omega, hd ⟨HH3.out.1, HH3.out.2.1, HH3.out.2.2.1, HH3.out.2.2.2, HS.out⟩⟩
        · have hk0' : decide (k < 0) = false := by simpa using hk0
          by_cases hz : z < 0
          · have HS : Hid (Sofar l fs (i + 1) z) := hd (by have := HSt.out; rwa [if_neg hk0, if_pos hz] at this)
            have hz' : decide (0 ≤ z) = false := by simp; omega
            clear HSt
            go_wp2_with fail
            go_roundg (gk - 1)
            case measure => omega
            case rel => exact ⟨i + 1, z, G3, rfl, by go_num, by omega, hd ⟨HH3.out.1, HH3.out.2.1, HH3.out.2.2.1, HH3.out.2.2.2, HS.out⟩⟩
          · have hz' : 0 ≤ z := by omega
            have HS : Hid (Sofar l fs (i + 1) (max z k)) := hd (by have := HSt.out; rwa [if_neg hk0, if_neg hz] at this)
            clear HSt hz
            by_cases hzk : z < k
            · have HS' : Hid (Sofar l fs (i + 1) k) := hd (by have := HS.out; rwa [show max z k = k by omega] at this)
              clear HS
              go_wp2_with fail
              go_roundg (gk - 1)
              case measure => omega
              case rel => exact ⟨i + 1, k, G3, rfl, by go_num, by omega, hd ⟨HH3.out.1, HH3.out.2.1, HH3.out.2.2.1, HH3.out.2.2.2, HS'.out⟩⟩
            · have hzk' : k ≤ z := by omega
              have HS' : Hid (Sofar l fs (i + 1) z) := hd (by have := HS.out; rwa [show max z k = z by omega] at this)
              clear HS
              go_wp2_with fail
              go_roundg (gk - 1)
              case measure => omega
              case rel => exact ⟨i + 1, z, G3, rfl, by go_num, by omega, hd ⟨HH3.out.1, HH3.out.2.1, HH3.out.2.2.1, HH3.out.2.2.2, HS'.out⟩⟩
      · have hltd : decide ((i : Int) < (fs.length : Int)) = false := by simp; omega
        obtain rfl : i = fs.length := by omega
        have HCv : Hid (cv l n = if z < 0 then -1 else z + 1) := hd (by
          have := HH.out.2.2.2.2
          rw [← hfs.out] at this
          exact this.cv HOk.out)
        obtain ⟨u4, g4⟩ := HH.out.1.putO n false
        have HU4 : Hid (US w0 (wr.setCell ⟨go, n, none⟩ (.bool false)) a l.length cap gr gl go M G' o) := hd (by
          have e : (fun j => if j = n then false else mark o n j) = o := by
            funext j
            unfold mark
            by_cases e : j = n
            · rw [if_pos e, e, hof]
            · rw [if_neg e, if_neg e]
          rwa [e] at u4)
        have HG4 : Hid (G2 w (wr.setCell ⟨go, n, none⟩ (.bool false)) gl go) := hd (HH.out.2.2.1.trans g4)
        have HL4 : Hid (LI l G') := hd HH.out.2.1
        have HSf : Hid (Sofar l fs fs.length z) := hd HH.out.2.2.2.2
        obtain ⟨k0, k1, k2, _, kO, _, _, _, _⟩ := HH.out.1
        have co := kO.cell n hn
        have fo := kO.free n
        clear u4 g4 HH kO
        go_upto_region 19 with fail
        obtain ⟨w4, hw4⟩ : ∃ w4, Hid (wr.setCell ⟨go, n, none⟩ (.bool false) = w4) := ⟨_, rfl⟩
        rw [hw4.out] at HU4 HG4 ⊢
        clear k0 k1 k2 co fo
        obtain ⟨k0, k1, k2, kL, _, _, _, _, _⟩ := HU4.out
        have cl := kL.cell n hn
        have fl := kL.free n
        unfold iF at cl
        obtain ⟨u5, g5⟩ := HU4.out.putL n (z + 1)
        have HU5 : Hid (US w0 (w4.setCell ⟨gl, n, none⟩ (.int .i64 (z + 1))) a l.length cap gr gl go M (upd G' n (z + 1)) o) := hd u5
        have HG5 : Hid (G2 w (w4.setCell ⟨gl, n, none⟩ (.int .i64 (z + 1))) gl go) := hd (HG4.out.trans g5)
        have hzl : -1 ≤ z := by
          rcases Int.lt_or_le z 0 with h | h
          · have := HSf.out.neg h; omega
          · omega
        clear u5 g5 kL
        go_upto_region 20 with fail
        obtain ⟨w5, hw5⟩ : ∃ w5, Hid (w4.setCell ⟨gl, n, none⟩ (.int .i64 (z + 1)) = w5) := ⟨_, rfl⟩
        rw [hw5.out] at HU5 HG5 ⊢
        clear k0 k1 k2 cl fl
        obtain ⟨k0, k1, k2, kL, _, _, _, _, _⟩ := HU5.out
        have cl := kL.cell n hn
        have fl := kL.free n
        unfold iF at cl
        rw [upd_self] at cl
        clear kL
        by_cases hz : z < 0
        · obtain ⟨u6, g6⟩ := HU5.out.putL n (-1)
          have HU6 : Hid (US w0 (w5.setCell ⟨gl, n, none⟩ (.int .i64 (-1))) a l.length cap gr gl go M (upd (upd G' n (z + 1)) n (-1)) o) := hd u6
          have HG6 : Hid (G2 w (w5.setCell ⟨gl, n, none⟩ (.int .i64 (-1))) gl go) := hd (HG5.out.trans g6)
          have HL6 : Hid (LI l (upd (upd G' n (z + 1)) n (-1))) := hd (fun i hi => by
            by_cases e : i = n
            · rw [e, upd_self, HCv.out, if_pos hz]
            · rw [upd_ne _ _ e, upd_ne _ _ e] at hi ⊢
              exact HL4.out i hi)
          have HF : Hid (Q (.returned (.int .i64 (-1))) (w5.setCell ⟨gl, n, none⟩ (.int .i64 (-1)))) := hd (by
            rw [← hQ.out]
            refine ⟨_, ?_, HU6.out, HL6.out, HG6.out⟩
            rw [if_neg Hs0.out, HCv.out, if_pos hz])
          clear u6 g6
          go_upto_region 22 with fail
          obtain ⟨w6, hw6⟩ : ∃ w6, Hid (w5.setCell ⟨gl, n, none⟩ (.int .i64 (-1)) = w6) := ⟨_, rfl⟩
          rw [hw6.out] at HU6 HF ⊢
          clear k0 k1 k2 cl fl
          obtain ⟨k0, k1, k2, kL, _, _, _, _, _⟩ := HU6.out
          have cl := kL.cell n hn
          unfold iF at cl
          rw [upd_self] at cl
          clear kL
          go_wp2_with fail
          exact HF.out
        · have hz' : decide (z < 0) = false := by simpa using hz
          have HL5 : Hid (LI l (upd G' n (z + 1))) := hd (fun i hi => by
            by_cases e : i = n
            · rw [e, upd_self, HCv.out, if_neg hz]
            · rw [upd_ne _ _ e] at hi ⊢
              exact HL4.out i hi)
          have HF : Hid (Q (.returned (.int .i64 (z + 1))) w5) := hd (by
            rw [← hQ.out]
            refine ⟨_, ?_, HU5.out, HL5.out, HG5.out⟩
            rw [if_neg Hs0.out, HCv.out, if_neg hz])
          clear hz
          go_wp2_with fail
          exact HF.out
  · have dg : (G n != 0) = true := by simpa using hg
    have HF : Hid (Q (.returned (.int .i64 (G n))) w) := hd (by
      rw [← hQ.out]
      refine ⟨G, ?_, HU.out, HL.out, G2.refl _ _ _⟩
      rw [if_neg Hs0.out, HL.out n hg])
    clear hg
    obtain ⟨x, hx⟩ : ∃ x, Hid (G n = x) := ⟨_, rfl⟩
    rw [hx.out] at cl dg HF
    go_enter Tryd.func26, Tryd.ntmps26
    go_wp2_with fail
    exact HF.out

theorem units_any (w0 : World) (a : Option Addr) (cap : Nat) (l : List Ins) (gr gl go M : Nat) (hP : Prg w0 a l) (ok : Ok l) (hM : 256 * (l.length + 1) = M) :
    ∀ (m n : Nat) (G : Nat → Int) (o : Nat → Bool) (w : World), left o M ≤ m → US w0 w a l.length cap gr gl go M G o → LI l G → n < M → (n % 256 ≠ 0 → ∀ i, o i = true → Pls l i n) →
      Calls Tryd.prog 26 #[.pointer (some ⟨gr, 0, none⟩), .int .i64 (n : Int)] w (UPost l w0 w a cap gr gl go M o n)
  | 0, n, G, o, w, hm, hU, hL, hn, hO => units_body w0 a cap l gr gl go M n G o w hP ok hM hU hL hn hO (fun h0 => by
      have := left_mark h0 M hn
      omega)
  | m + 1, n, G, o, w, hm, hU, hL, hn, hO => units_body w0 a cap l gr gl go M n G o w hP ok hM hU hL hn hO (fun h0 t G' w' u1 l1 t1 p1 =>
      units_any w0 a cap l gr gl go M hP ok hM m t G' (mark o n) w' (by have := left_mark h0 M hn; omega) u1 l1 t1 p1)
end Go.Proofs.YtehapcoppghppaaDoor
