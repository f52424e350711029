/- The small functions that tell what is wrong with a field. -/
import Derived.Test.YtmjokinagbpihaaDoorProg
import Derived.Test.YtmjokinagbpihaaDoorCM1
import Derived.WalkKit
import Derived.WalkSpells
import Derived.WalkLawsBesides
import Derived.Deep.Quiet
import Derived.Deep.QuietTactic
import Derived.BigQuiet
namespace Go.Proofs.YtmjokinagbpihaaDoor
open Go.RowKit

theorem hd {p : Prop} (h : p) : Hid p := h
theorem ret_bool {a b : Bool} (h : a = b) : Ending.returned (.bool a) = .returned (.bool b) := by rw [h]
theorem ret_int {k : IntKind} {a b : Int} (h : a = b) : Ending.returned (.int k a) = .returned (.int k b) := by rw [h]

/-- An instruction as a value. -/
def insV (x : Ins) : Value := .agg #[.int .i64 x.op, .int .i64 x.a, .int .i64 x.b, .int .i64 x.c, .int .i64 x.imm]

set_option maxRecDepth 100000 in
theorem known_any (o : Int) (w : World) :
    Calls Tryd.prog 76 #[.int .i64 o] w fun e w' => e = .returned (.bool (decide (0 ≤ o) && decide (o < 34))) ∧ w' = w := by
  by_cases h1 : 0 ≤ o
  · by_cases h2 : o < 34
    · go_enter Tryd.func76, Tryd.ntmps76
      go_wp2
      go_ret
      exact ⟨ret_bool (by simp [h1, h2]), rfl⟩
    · have d2 : decide (o < 34) = false := by simpa using h2
      go_enter Tryd.func76, Tryd.ntmps76
      go_wp2
      go_ret
      exact ⟨rfl, rfl⟩
  · have d1 : decide (0 ≤ o) = false := by simpa using h1
    go_enter Tryd.func76, Tryd.ntmps76
    go_wp2
    go_ret
    exact ⟨rfl, rfl⟩

set_option maxRecDepth 100000 in
theorem unused_any (v : Int) (w : World) :
    Calls Tryd.prog 81 #[.int .i64 v] w fun e w' => e = .returned (.int .i64 (if v = 0 then 0 else 11)) ∧ w' = w := by
  by_cases h1 : v = 0
  · subst h1
    go_enter Tryd.func81, Tryd.ntmps81
    go_wp2
    go_ret
    exact ⟨ret_int (by simp), rfl⟩
  · have d1 : (v == 0) = false := by simpa using h1
    go_enter Tryd.func81, Tryd.ntmps81
    go_wp2
    go_ret
    exact ⟨rfl, rfl⟩

set_option maxRecDepth 100000 in
theorem register_any (r : Int) (h : Bool) (w : World) :
    Calls Tryd.prog 78 #[.int .i64 r, .bool h] w fun e w' => e = .returned (.int .i64 (regE r h)) ∧ w' = w := by
  cases h
  · have hu := unused_any r
    have e0 : regE r false = if r = 0 then 0 else 11 := by simp [regE]
    rw [e0]
    obtain ⟨E, hE⟩ : ∃ E : Int, (if r = 0 then 0 else 11) = E := ⟨_, rfl⟩
    rw [hE] at hu ⊢
    clear hE e0
    go_enter Tryd.func78, Tryd.ntmps78
    go_wp2_with (go_at_call 81; refine (hu _).mono ?_; rintro e w1 ⟨rfl, rfl⟩)
    go_ret
    exact ⟨rfl, rfl⟩
  · by_cases h1 : r < 0
    · go_enter Tryd.func78, Tryd.ntmps78
      go_wp2
      go_ret
      exact ⟨ret_int (by simp [regE]; omega), rfl⟩
    · have d1 : decide (r < 0) = false := by simpa using h1
      by_cases h2 : 8 ≤ r
      · go_enter Tryd.func78, Tryd.ntmps78
        go_wp2
        go_ret
        exact ⟨ret_int (by simp [regE]; omega), rfl⟩
      · have d2 : decide (8 ≤ r) = false := by simpa using h2
        go_enter Tryd.func78, Tryd.ntmps78
        go_wp2
        go_ret
        exact ⟨ret_int (by simp [regE]; omega), rfl⟩

set_option maxRecDepth 100000 in
theorem rregister_any (r : Int) (h : Bool) (w : World) :
    Calls Tryd.prog 74 #[.int .i64 r, .bool h] w fun e w' => e = .returned (.int .i64 (regE r h)) ∧ w' = w := by
  cases h
  · by_cases h1 : r = 0
    · subst h1
      go_enter Tryd.func74, Tryd.ntmps74
      go_wp2
      go_ret
      exact ⟨ret_int (by simp [regE]), rfl⟩
    · have d1 : (r == 0) = false := by simpa using h1
      go_enter Tryd.func74, Tryd.ntmps74
      go_wp2
      go_ret
      exact ⟨ret_int (by simp [regE, h1]), rfl⟩
  · by_cases h1 : r < 0
    · go_enter Tryd.func74, Tryd.ntmps74
      go_wp2
      go_ret
      exact ⟨ret_int (by simp [regE]; omega), rfl⟩
    · have d1 : decide (r < 0) = false := by simpa using h1
      by_cases h2 : 8 ≤ r
      · go_enter Tryd.func74, Tryd.ntmps74
        go_wp2
        go_ret
        exact ⟨ret_int (by simp [regE]; omega), rfl⟩
      · have d2 : decide (8 ≤ r) = false := by simpa using h2
        go_enter Tryd.func74, Tryd.ntmps74
        go_wp2
        go_ret
        exact ⟨ret_int (by simp [regE]; omega), rfl⟩
end Go.Proofs.YtmjokinagbpihaaDoor
