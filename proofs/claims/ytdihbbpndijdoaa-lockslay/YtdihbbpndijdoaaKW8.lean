/- Holds. -/
import Derived.Test.YtdihbbpndijdoaaKW7
namespace Go.Proofs.Ytdihbbpndijdoaa
open Go.RowKit Go.Maps

/-- A list of numbers of the call's own. -/
def OwnI (w : World) (l : List Int) (w' : World) (a : Option Addr) (n c : Nat) : Prop := l.length = n ∧ Row w' 3 1 a n c (iC l) ∧ Below w.heap.size w w' ∧ ∀ k, blk a = some k → w.heap.size ≤ k
theorem OwnI.nil (w : World) : OwnI w [] w none 0 0 := ⟨rfl, Row.nil, below_same w, fun _ h => (by cases h)⟩
theorem OwnI.push {w w1 : World} {l : List Int} {a : Option Addr} {n c : Nat} (h : OwnI w l w1 a n c) (hn : n < 8796093022208) (v : Int) :
    ∃ a' c' w', (∀ ty, (Builtin.append_ #[33, 33] ty #[.slice a n c, .slice (some ⟨w1.heap.size, 0, none⟩) 1 1]).run Try.prog (w1.alloc (.cells #[.int .i64 v] 3)) = .ok (.slice a' (n + 1) c') w') ∧ OwnI w (l ++ [v]) w' a' (n + 1) c' := by
  obtain ⟨h1, h2, h3, h4⟩ := h
  obtain ⟨a', c', w', m1, m2, m3, m4⟩ := push_any (T := 33) Try.underlying33 infoN rfl h2 (by unfold maxLen; omega) (by omega) [.int .i64 v] rfl (by simp [Value.oneCell'])
  refine ⟨a', c', w', m1, by simp [h1], by rw [iC_app]; exact m2, h3.trans (m3.below h3.size (fun k _ hk => h4 k hk)), fun k hk => ?_⟩
  rcases m4 k hk with h5 | h5
  · exact h4 k h5
  · exact Nat.le_trans h3.size h5

set_option maxRecDepth 100000 in
set_option maxHeartbeats 2000000 in
theorem holds_any {w : World} {X : List Value} {b : Nat} {ao : Option Addr} {co : Nat} {aq : Option Addr} {cq : Nat} {os : List Int} {es : List Qe} (h : LB w 59 X b ao co aq cq os es) (h8 : os.length ≤ 8) (hown : ∀ i, -1 ≤ oAt os i) (p : Int) :
    Calls Try.prog 16 #[.pointer (some ⟨b, 0, none⟩), .int .i64 p] w fun e w' => ∃ a n c, e = .returned (.slice a n c) ∧ OwnI w (hold os p) w' a n c := by
  have c0 := h.c0
  have HC : Hid (∀ i, i < os.length → ∀ wr, Below w.heap.size w wr → ∃ g, ao = some ⟨g, 0, none⟩ ∧ wr.cell? ⟨g, i, none⟩ = some (.int .i64 (oAt os i))) := hd (fun i hi wr hb => (h.below hb).owner i hi)
  obtain ⟨n, hN⟩ : ∃ n, Hid (os.length = n) := ⟨_, rfl⟩
  rw [hN.out] at c0 HC h8
  have HO := hd hown
  have HEND : Hid (hold os p = holdTo os p n) := hd (by unfold hold; rw [hN.out])
  rw [HEND.out]
  clear h hown HEND
  go_enter Try.func16, Try.ntmps16
  go_wp2_with fail
  go_loopg [5, 6, 7, 13, 14, 15, 16, 17, 18, 19, 20, 21, 22, 23, 24, 25, 26, 27, 28, 29] n (fun k v5 v6 v7 v13 v14 v15 v16 v17 v18 v19 v20 v21 v22 v23 v24 v25 v26 v27 v28 v29 wr => ∃ (i nn c : Nat) (a : Option Addr), i + k = n ∧ v13 = .int .i64 (i : Int) ∧ v5 = .slice a nn c ∧ nn ≤ i ∧ Hid (OwnI w (holdTo os p i) wr a nn c))
  case atStart => exact ⟨0, 0, 0, none, by omega, by go_num, rfl, Nat.le_refl _, hd (OwnI.nil w)⟩
  case round =>
    obtain ⟨i, nn, c, a, hik, rfl, rfl, hnn, HW⟩ := hrel
    by_cases h0 : gk = 0
    · subst h0
      have hi : i = n := by omega
      subst hi
      clear hik HC HO hN
      go_wp2_with fail
      go_ret
      exact ⟨a, nn, c, rfl, HW.out⟩
    · have hlt : i < n := by omega
      obtain ⟨g, rfl, ci⟩ := HC.out i hlt wr HW.out.2.2.1
      have HS := hd (holdTo_succ os p i)
      have hge := HO.out i
      generalize oAt os i = v at *
      by_cases h1 : v = -1
      · subst h1
        have HW2 : Hid (OwnI w (holdTo os p (i + 1)) wr a nn c) := hd (by rw [HS.out, if_neg (by omega), List.append_nil]; exact HW.out)
        clear HS HW hge
        go_wp2_with fail
        go_roundg (gk - 1)
        case rel => exact ⟨i + 1, nn, c, a, by omega, by go_num, rfl, by omega, HW2⟩
        case measure => omega
      · have h1' : (v != -1) = true := by simpa using h1
        by_cases h2 : v = p
        · obtain ⟨a', c', w', hap, ho⟩ := HW.out.push (by omega) (i : Int)
          have HW2 : Hid (OwnI w (holdTo os p (i + 1)) w' a' (nn + 1) c') := hd (by rw [HS.out, if_pos ⟨by omega, h2⟩]; exact ho)
          subst h2
          replace hap := hd hap
          clear HS HW hge ho h1
          go_wp2_with (first | (at_builtin; refine wpList_append_run rfl _ _ _ rfl _ _ _ _ rfl rfl hap.out ?_; clear hap))
          go_roundg (gk - 1)
          case rel => exact ⟨i + 1, nn + 1, c', a', by omega, by go_num, rfl, by omega, HW2⟩
          case measure => omega
        · have h2' : (v == p) = false := by simpa using h2
          have HW2 : Hid (OwnI w (holdTo os p (i + 1)) wr a nn c) := hd (by rw [HS.out, if_neg (fun e => h2 e.2), List.append_nil]; exact HW.out)
          clear HS HW hge h1 h2
          go_wp2_with fail
          go_roundg (gk - 1)
          case rel => exact ⟨i + 1, nn, c, a, by omega, by go_num, rfl, by omega, HW2⟩
          case measure => omega
end Go.Proofs.Ytdihbbpndijdoaa
