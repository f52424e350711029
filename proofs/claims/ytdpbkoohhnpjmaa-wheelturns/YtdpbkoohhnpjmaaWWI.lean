/- Pop. -/
import Derived.Test.YtdpbkoohhnpjmaaWWH
namespace Go.Proofs.Ytdpbkoohhnpjmaa
open Go.RowKit Go.Sort Go.Shelf Go.Maps

def idC (out : List Th) : List Value := iC (out.map (·.2))
theorem idC_app (o p : List Th) : idC (o ++ p) = idC o ++ idC p := by simp [idC, iC_app]

/-- What Pop leaves: out taken off, L' left; the numbers lie in memory of their own. -/
structure PopTo (w : World) (b : Nat) (F : Nat → Prop) (now : Int) (L : List Th) (w' : World) (out L' : List Th) (a : Option Addr) (c : Nat) : Prop where
  row : Row w' 3 1 a out.length c (idC out)
  new : ∀ k, blk a = some k → w.heap.size ≤ k
  mod : Mod F w w'
  wh : ∃ F', Wh w' b F' L' ∧ (∀ k, F' k → F k ∨ w.heap.size ≤ k) ∧ ∀ k, blk a = some k → ¬ F' k
/-- The rest of it. -/
def PopsOn (now : Int) (L out L1 : List Th) : Prop := ∀ o L2, Pops now L1 o L2 → Pops now L (out ++ o) L2

set_option maxRecDepth 100000 in
set_option maxHeartbeats 2000000 in
theorem wpop_any {w : World} {b : Nat} {F : Nat → Prop} {L : List Th} (h : Wh w b F L) (now : Int) (hL : L.length ≤ 4398046511104) :
    Calls Try.prog 9 #[.pointer (some ⟨b, 0, none⟩), .int .i64 now] w fun e w' => ∃ out L' a c, e = .returned (.slice a out.length c) ∧ Pops now L out L' ∧ PopTo w b F now L w' out L' a c := by
  have HP0 : Hid (PopTo w b F now L w [] L none 0 ∧ PopsOn now L [] L) := hd ⟨⟨Row.nil, (fun k hk => by cases hk), Mod.refl _ _, ⟨F, h, (fun k hk => Or.inl hk), (fun k hk => by cases hk)⟩⟩, fun o L2 h => h⟩
  clear h
  obtain ⟨nL, hnL⟩ : ∃ n, Hid (L.length = n) := ⟨_, rfl⟩
  rw [hnL.out] at hL
  go_enter Try.func9, Try.ntmps9
  go_wp2_with fail
  go_loopg [5] nL (fun k v5 wr => ∃ n a c, v5 = .slice a n c ∧ k + n ≤ nL ∧ Hid (∃ out L1, out.length = n ∧ L1.length = k ∧ PopTo w b F now L wr out L1 a c ∧ PopsOn now L out L1))
  case atStart => exact ⟨0, none, 0, rfl, by omega, hd ⟨[], L, rfl, hnL.out, HP0.out⟩⟩
  case round =>
    obtain ⟨n, a, c, rfl, hkn, HR⟩ := hrel
    clear HP0
    obtain ⟨out, L1, ho, hl1, hP, hPs⟩ := HR.out
    obtain ⟨F1, ⟨m, a1, c1, O, hW, hfst, hlen, hF, hF9⟩, hF1, hF2⟩ := hP.wh
    obtain ⟨nO, hnO⟩ : ∃ n, Hid (O.length = n) := ⟨_, rfl⟩
    have k1 := hW.hp.c1
    have k0 := hW.hp.c0
    rw [hnO.out] at k1
    by_cases h0 : nO = 0
    · subst h0
      have hno : L1 = [] := Wh.none hW hnO.out
      have HE : Hid (∃ out L' a' c', Ending.returned (.slice a n c) = .returned (.slice a' out.length c') ∧ Pops now L out L' ∧ PopTo w b F now L wr out L' a' c') := hd ⟨out, L1, a, c, by rw [ho], by have := hPs [] L1 (by rw [hno]; exact Pops.none); rwa [List.append_nil] at this, hP⟩
      clear hW hP hPs hl1 ho HR
      go_wp2_with fail
      go_ret
      exact HE.out
    · have hpos : 0 < nO := by omega
      have hmin := Wh.min hW hfst (by rw [hnO.out]; exact hpos)
      obtain ⟨g, rfl, x0, x1⟩ := row_t hW.hp.row 0 (by rw [hnO.out]; exact hpos)
      obtain ⟨t, ht⟩ : ∃ t, Hid (tAt O 0 = t) := ⟨_, rfl⟩
      rw [ht.out] at x0 x1 hmin
      simp only [Nat.zero_mul, Nat.zero_add] at x0 x1
      have hpos' : (0 : Int) < (nO : Int) := by omega
      clear h0
      by_cases hdue : t.1 ≤ now
      · have hnm : n < maxLen := by unfold maxLen; omega
        have hrw := hP.row
        rw [ho] at hrw
        obtain ⟨a', c', w2, hap, R2, M2, B2⟩ := push_any (T := 35) (e := 3) (z := .int .i64 0) (size := 1) (bytes := 8) Try.underlying35 infoN rfl hrw hnm (by omega) [.int .i64 t.2] rfl (by simp [Value.oneCell'])
        have hap := hd hap
        have hdis : ∀ k, wfp b m (some ⟨g, 0, none⟩) k → ¬ blk a = some k := fun k hk e => hF2 k e (hF k hk)
        have hW2 := (hW.mod M2 hdis).below ((Below.refl _ w2).drew)
        have y0 : w2.cell? ⟨b, 0, none⟩ = some (.map (some m)) := hW2.hp.c0
        have y1 : w2.cell? ⟨b, 1, none⟩ = some (.slice (some ⟨g, 0, none⟩) nO c1) := by have := hW2.hp.c1; rw [hnO.out] at this; exact this
        obtain ⟨g', e', z0, z1⟩ := row_t hW2.hp.row 0 (by rw [hnO.out]; exact hpos)
        cases e'
        rw [ht.out] at z0 z1
        simp only [Nat.zero_mul, Nat.zero_add] at z0 z1
        have z0 : w2.cell? ⟨g, 0, none⟩ = some (.int .i64 t.1) := z0
        have z1 : w2.cell? ⟨g, 1, none⟩ = some (.int .i64 t.2) := z1
        have hdr : ∃ w3, (∀ ty, (Builtin.delete_ #[52, 3] ty #[.map (some m), .int .i64 t.2]).run Try.prog w2.drew = .ok (.tuple #[]) w3) ∧ WhAt w3 b m (some ⟨g, 0, none⟩) c1 (clr t.2 L1) O ∧ Mod (fun k => k = m) w2.drew w3 := by
          obtain ⟨D, m1, m2⟩ := hW2.map
          obtain ⟨w3, hrun, o2, t2⟩ := m1.drop lawInt Try.underlying52 (key_int (hW.good.fit t hmin.1).id64) 0
          have hM2 : Mod (fun k => k = m) w2.drew w3 := (mod_grown t2.grown).mono (fun k _ e => (Option.some.inj e).symm)
          have o2' := owns_tight o2
          have m2' := m2.del hW2.good t.2
          rw [m2'.size] at o2'
          exact ⟨w3, fun ty => hrun, ⟨hW2.hpMap hM2, ⟨_, o2', m2'⟩, hW2.mb, hW2.ma, hW2.good.clr t.2, hW2.heap, fun t ht => hW2.all t (clr_mem.1 ht).1, hW2.fit⟩, hM2⟩
        obtain ⟨w3, hrun, hW3, hM3⟩ := hdr
        have hcl : (clr t.2 L1).length + 1 = gk := by rw [← hl1]; exact clr_len hW.good (isSet_iff.2 ⟨t, hmin.1, rfl⟩)
        have htd := tidy_any hW3 (by omega)
        have v0 : w3.cell? ⟨b, 0, none⟩ = some (.map (some m)) := hW3.hp.c0
        have HE : Hid (∀ (w4 : World), TidyOut w3 b m (some ⟨g, 0, none⟩) (clr t.2 L1) w4 → ∃ out' L1', out'.length = n + 1 ∧ L1'.length = gk - 1 ∧ PopTo w b F now L w4 out' L1' a' c' ∧ PopsOn now L out' L1') := hd (fun w4 ⟨a4, c4, O4, hW4, h5, h6⟩ => by
          have hsz2 : w.heap.size ≤ w2.heap.size := Nat.le_trans hP.mod.size M2.size
          have hwl : ∀ k, wfp b m (some ⟨g, 0, none⟩) k → F k ∨ w.heap.size ≤ k := fun k hk => hF1 k (hF k hk)
          have hm3 : Mod F w w3 := ((hP.mod.trans M2 (fun k hk => .inr (hP.new k hk))).after ((Below.refl _ w2).drew)).trans hM3 (fun k hk => hwl k (.inr (.inl hk)))
          have hm4 : Mod F w w4 := hm3.trans hW4.mod (fun k hk => hwl k (by
            rcases hk with h | h
            · exact .inl h
            · exact .inr (.inr h)))
          have hane : ∀ k, blk a' = some k → ¬ wfp b m (some ⟨g, 0, none⟩) k := fun k hk hw => by
            rcases B2 k hk with h | h
            · exact hdis k hw h
            · have := hF9 k (hF k hw); omega
          have hra' : Row w4 3 1 a' (n + 1) c' (idC out ++ [.int .i64 t.2]) := (((R2.below ((Below.refl _ w2).drew)).mod hM3 (fun k hk e => hane k hk (.inr (.inl e)))).mod hW4.mod (fun k hk e => hane k hk (by
            rcases e with h | h
            · exact .inl h
            · exact .inr (.inr h))))
          refine ⟨out ++ [t], clr t.2 L1, by simp [ho], by omega, ⟨?_, fun k hk => ?_, hm4, wfp b m a4, ⟨m, a4, c4, O4, hW4.at', h5, h6, fun _ h => h, hW4.at'.lt⟩, fun k hk => ?_, fun k hk hw => ?_⟩, fun o L2 ho2 => ?_⟩
          · rw [idC_app]
            have : (out ++ [t]).length = n + 1 := by simp [ho]
            rw [this]
            exact hra'
          · rcases B2 k hk with h | h
            · exact hP.new k h
            · exact Nat.le_trans hP.mod.size h
          · rcases hk with h | h | h
            · exact hwl k (.inl h)
            · exact hwl k (.inr (.inl h))
            · rcases hW4.new k h with h' | h'
              · exact hwl k (.inr (.inr h'))
              · exact .inr (Nat.le_trans hm3.size h')
          · rcases hw with h | h | h
            · exact hane k hk (.inl h)
            · exact hane k hk (.inr (.inl h))
            · rcases hW4.new k h with h' | h'
              · exact hane k hk (.inr (.inr h'))
              · have h8 := R2.lt k hk
                have h9 : w2.heap.size ≤ w3.heap.size := hM3.size
                omega
          · rw [List.append_assoc]
            exact hPs _ _ (Pops.one hmin hdue ho2))
        obtain ⟨t1, t2⟩ := t
        simp only at x0 x1 z0 z1 hdue hap hrun HE htd hcl
        clear hW hP hPs hl1 ho HR hmin hW2 hW3 hM3 R2 M2 B2 hdis hrw
        go_upto_region 4 with (first | (at_builtin; refine wpList_append_run rfl _ _ _ rfl _ _ _ _ rfl rfl hap.out ?_))
        clear hap x0 x1 k0 k1
        go_region
        all_goals clear hrun z0 z1 y0 y1
        all_goals go_wp2_with (first | (go_at_call 23; refine htd.mono ?_; rintro e4 w4 ⟨rfl, h4⟩))
        all_goals go_roundg (gk - 1)
        all_goals first
          | (case measure => omega)
          | (case rel => exact ⟨n + 1, a', c', rfl, by omega, hd (HE.out _ h4)⟩)
      · have hlate : now < t.1 := by omega
        have hld : decide (t.1 ≤ now) = false := by simpa using hdue
        have HE : Hid (∃ out L' a' c', Ending.returned (.slice a n c) = .returned (.slice a' out.length c') ∧ Pops now L out L' ∧ PopTo w b F now L wr out L' a' c') := hd ⟨out, L1, a, c, by rw [ho], by have := hPs [] L1 (Pops.late hmin hlate); rwa [List.append_nil] at this, hP⟩
        obtain ⟨t1, t2⟩ := t
        simp only at x0 x1 hld
        clear hW hP hPs hl1 ho HR hmin hdue hlate
        go_wp2_with fail
        go_ret
        exact HE.out
end Go.Proofs.Ytdpbkoohhnpjmaa
