/- Decode. -/
import Derived.Test.YtnkanaccacephaaSW7
namespace Go.Proofs.Ytnkanaccacephaa
open Go.RowKit

/-- What Decode leaves. -/
def DecOut (w : World) (bs : List Nat) (e : Ending) (w' : World) : Prop :=
  ∃ a1 c1, e = .returned (.tuple #[.slice a1 (decF bs).1.length c1, .int .i64 (decF bs).2.1, .int .i64 (decF bs).2.2]) ∧ Row w' 38 3 a1 (decF bs).1.length c1 (sCells (decF bs).1) ∧ (∀ k, blk a1 = some k → w.heap.size ≤ k) ∧ Below w.heap.size w w'

theorem decF_long {bs : List Nat} (h : 1048576 < bs.length) : decF bs = ([], 22, 1048576) := decF_er (by unfold decS; rw [if_pos h])
theorem decF_fine {bs : List Nat} {c : List Stp} {q : Nat} (h : ¬ 1048576 < bs.length) (hw : wholeS bs = .ok c q) : decF bs = (c, 0, 0) := decF_ok (q := q) (by unfold decS; rw [if_neg h]; exact hw)
theorem decF_bad {bs : List Nat} {e a : Int} (h : ¬ 1048576 < bs.length) (hw : wholeS bs = .er e a) : decF bs = ([], e, a) := decF_er (by unfold decS; rw [if_neg h]; exact hw)
theorem dec_out_nil {w w' : World} {bs : List Nat} {e a : Int} (h : decF bs = ([], e, a)) (hb : Below w.heap.size w w') : DecOut w bs (.returned (.tuple #[.slice none 0 0, .int .i64 e, .int .i64 a])) w' :=
  ⟨none, 0, by rw [h]; rfl, by rw [h]; exact Row.nil, (fun k hk => by cases hk), hb⟩

set_option maxRecDepth 100000 in
set_option maxHeartbeats 2000000 in
theorem decode_any (a : Option Addr) (cap : Nat) (bs : List Nat) (w : World) (hR : Rd w a (bCells bs)) (hb : Byte bs) (hcap : bs.length ≤ cap) :
    Calls Try.prog 13 #[.slice a bs.length cap] w (DecOut w bs) := by
  by_cases hn : 1048576 < bs.length
  · have hn' : (1048576 : Int) < (bs.length : Int) := by omega
    have HE := hd (dec_out_nil (w := w) (w' := w) (decF_long hn) (Below.refl _ _))
    clear hR hb hcap
    go_enter Try.func13, Try.ntmps13
    go_wp2_with fail
    go_ret3
    exact HE.out
  · have hnd : decide ((1048576 : Int) < (bs.length : Int)) = false := by simp; omega
    have hle : (bs.length : Int) ≤ 1048576 := by omega
    have hal := below_al w (.cells #[.slice a bs.length cap, .int .i64 0, .int .i64 0, .int .i64 0, .int .i64 0] 47)
    have HR : RdAt (w.alloc (.cells #[.slice a bs.length cap, .int .i64 0, .int .i64 0, .int .i64 0, .int .i64 0] 47)) w.heap.size a cap bs ⟨0, 0, 0, 0⟩ := by
      refine ⟨heap_alloc_new w _, hR.below hal, ?_, hb, by omega, hcap, Nat.zero_le _, Nat.zero_le _⟩
      intro hz k hk e
      obtain ⟨b, o, rfl, hc⟩ := hR 0 (.int .u8 ((bs.getD 0 0 : Nat) : Int)) (by simp [bCells, List.getD_eq_getElem?_getD, List.getElem?_eq_getElem (show 0 < bs.length by omega)])
      have := World.block_lt_of_cell? w _ hc
      cases hk
      simp only at this e
      omega
    have hs := script_any HR ⟨rfl, rfl, rfl⟩
    have HE : Hid (∀ (l : List Stp) (a1 : Option Addr) (c1 : Nat) (s' : St) (W : World), MkI (w.alloc (.cells #[.slice a bs.length cap, .int .i64 0, .int .i64 0, .int .i64 0, .int .i64 0] 47)) w.heap.size a cap bs s' W 38 3 a1 l.length c1 (sCells l) → ((s'.e = 0 ∧ ∃ q, wholeS bs = .ok l q) ∨ (s'.e ≠ 0 ∧ wholeS bs = .er s'.e s'.at_)) → ∀ n, (s'.e = 0 → DecOut w bs (.returned (.tuple #[.slice a1 l.length c1, .int .i64 0, .int .i64 0])) (W.drewN n)) ∧ (s'.e ≠ 0 → DecOut w bs (.returned (.tuple #[.slice none 0 0, .int .i64 s'.e, .int .i64 s'.at_])) (W.drewN n))) := hd (by
      intro l a1 c1 s' W hm hres n
      have hbw : Below w.heap.size w (W.drewN n) := (hal.trans (hm.out.2.below (B := w.heap.size) hal.size (fun k _ hk => by omega))).trans ((below_draw W n).mono (by have h1 := hal.size; have h2 := hm.out.2.size; omega))
      refine ⟨fun h0 => ?_, fun h0 => ?_⟩
      · rcases hres with ⟨_, q, hw⟩ | ⟨h1, _⟩
        · have e := decF_fine hn hw
          unfold DecOut
          rw [e]
          exact ⟨a1, c1, rfl, hm.row.below (below_draw W n), fun k hk => by have := hm.new k hk; have := hal.size; omega, hbw⟩
        · exact absurd h0 h1
      · rcases hres with ⟨h1, _⟩ | ⟨_, hw⟩
        · exact absurd h1 h0
        · exact dec_out_nil (decF_bad hn hw) hbw)
    clear hR hal HR hn
    go_enter Try.func13, Try.ntmps13
    go_upto_region 5 with (go_at_call 23; refine hs.mono ?_; rintro e w2 ⟨l, a1, c1, s', rfl, hm, hres⟩)
    have HN := hd (HE.out l a1 c1 s' w2 hm hres)
    clear hs HE hres
    have k3 := hm.out.1.cells.2.2.2.1
    have k4 := hm.out.1.cells.2.2.2.2
    by_cases he : s'.e = 0
    · have hf := failed_any hm.out.1 false (by simp [he])
      have HZ := hd ((HN.out 0).1 he)
      clear HN hm he k3 k4
      go_wp2_with (go_at_call 24; refine hf.mono ?_; rintro e w3 ⟨rfl, rfl⟩)
      go_ret3
      exact HZ.out
    · have hf := failed_any hm.out.1 true (by simp [he])
      have HZ : Hid (∀ n, _) := hd (fun n => (HN.out n).2 he)
      clear HN hm he
      go_upto_region 6 with (go_at_call 24; refine hf.mono ?_; rintro e w2 ⟨rfl, rfl⟩)
      go_quiet (fail)
      go_wp2_with fail
      go_ret3
      exact HZ.out _
end Go.Proofs.Ytnkanaccacephaa
