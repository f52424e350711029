/- The document's example. -/
import Derived.Test.YtmjokinagbpihaaDoorQS6
import Derived.Test.YtmjokinagbpihaaDoorQC4
namespace Go.Proofs.YtmjokinagbpihaaDoor
open Go.RowKit

def smI : Ins := ⟨25, 3, 4, 0, 0⟩
def smC : Cfg := ⟨[0, 1], [0, 1], 2, 1, 1, 4, [⟨1, [smI]⟩]⟩

theorem alloc_five (w : World) (o0 o1 o2 o3 o4 : Obj) :
    (((((w.alloc o0).alloc o1).alloc o2).alloc o3).alloc o4).heap[w.heap.size]? = some o0 ∧ (((((w.alloc o0).alloc o1).alloc o2).alloc o3).alloc o4).heap[w.heap.size + 1]? = some o1 ∧
    (((((w.alloc o0).alloc o1).alloc o2).alloc o3).alloc o4).heap[w.heap.size + 1 + 1]? = some o2 ∧ (((((w.alloc o0).alloc o1).alloc o2).alloc o3).alloc o4).heap[w.heap.size + 1 + 1 + 1]? = some o3 ∧
    (((((w.alloc o0).alloc o1).alloc o2).alloc o3).alloc o4).heap[w.heap.size + 1 + 1 + 1 + 1]? = some o4 ∧ Below w.heap.size w (((((w.alloc o0).alloc o1).alloc o2).alloc o3).alloc o4) := by
  have b1 := below_al w o0
  have b2 := below_al (w.alloc o0) o1
  have b3 := below_al ((w.alloc o0).alloc o1) o2
  have b4 := below_al (((w.alloc o0).alloc o1).alloc o2) o3
  have b5 := below_al ((((w.alloc o0).alloc o1).alloc o2).alloc o3) o4
  have s1 : (w.alloc o0).heap.size = w.heap.size + 1 := by simp
  have s2 : ((w.alloc o0).alloc o1).heap.size = w.heap.size + 1 + 1 := by simp
  have s3 : (((w.alloc o0).alloc o1).alloc o2).heap.size = w.heap.size + 1 + 1 + 1 := by simp
  have s4 : ((((w.alloc o0).alloc o1).alloc o2).alloc o3).heap.size = w.heap.size + 1 + 1 + 1 + 1 := by simp
  refine ⟨?_, ?_, ?_, ?_, ?_, ?_⟩
  · rw [b5.block _ (by omega), b4.block _ (by omega), b3.block _ (by omega), b2.block _ (by omega)]
    exact heap_alloc_new w o0
  · rw [b5.block _ (by omega), b4.block _ (by omega), b3.block _ (by omega), ← s1]
    exact heap_alloc_new _ o1
  · rw [b5.block _ (by omega), b4.block _ (by omega), ← s2]
    exact heap_alloc_new _ o2
  · rw [b5.block _ (by omega), ← s3]
    exact heap_alloc_new _ o3
  · rw [← s4]
    exact heap_alloc_new _ o4
  · exact b1.trans ((b2.mono (by omega)).trans ((b3.mono (by omega)).trans ((b4.mono (by omega)).trans (b5.mono (by omega)))))

set_option maxRecDepth 100000 in
set_option maxHeartbeats 1000000 in
theorem small_cfg (w : World) :
    Calls Tryd.prog 25 #[] w fun e w' => ∃ g, e = .returned (cfV smC g) ∧ CfO w.heap.size w' smC g ∧ Below w.heap.size w w' := by
  go_enter Tryd.func25, Tryd.ntmps25
  go_wp2_with fail
  obtain ⟨h0, h1, h2, h3, h4, hb⟩ := alloc_five w (.cells #[.slice (some ⟨w.heap.size + 1, 0, none⟩) 2 2, .slice (some ⟨w.heap.size + 1 + 1, 0, none⟩) 2 2, .int .i64 2, .int .i64 1, .int .i64 1, .int .i64 4, .slice (some ⟨w.heap.size + 1 + 1 + 1 + 1, 0, none⟩) 1 1] 27) (.cells #[.int .u64 0, .int .u64 1] 65) (.cells #[.int .i64 0, .int .i64 1] 3) (.cells #[.int .i64 25, .int .i64 3, .int .i64 4, .int .i64 0, .int .i64 0] 71) (.cells #[.int .i64 1, .slice (some ⟨w.heap.size + 1 + 1 + 1, 0, none⟩) 1 1] 42)
  generalize (((((w.alloc (.cells #[.slice (some ⟨w.heap.size + 1, 0, none⟩) 2 2, .slice (some ⟨w.heap.size + 1 + 1, 0, none⟩) 2 2, .int .i64 2, .int .i64 1, .int .i64 1, .int .i64 4, .slice (some ⟨w.heap.size + 1 + 1 + 1 + 1, 0, none⟩) 1 1] 27)).alloc (.cells #[.int .u64 0, .int .u64 1] 65)).alloc (.cells #[.int .i64 0, .int .i64 1] 3)).alloc (.cells #[.int .i64 25, .int .i64 3, .int .i64 4, .int .i64 0, .int .i64 0] 71)).alloc (.cells #[.int .i64 1, .slice (some ⟨w.heap.size + 1 + 1 + 1, 0, none⟩) 1 1] 42)) = W at *
  have d0 := cell_of_row W _ 0 _ _ _ h0
  have d1 := cell_of_row W _ 1 _ _ _ h0
  have d2 := cell_of_row W _ 2 _ _ _ h0
  have d3 := cell_of_row W _ 3 _ _ _ h0
  have d4 := cell_of_row W _ 4 _ _ _ h0
  have d5 := cell_of_row W _ 5 _ _ _ h0
  have d6 := cell_of_row W _ 6 _ _ _ h0
  simp at d0 d1 d2 d3 d4 d5 d6
  have HO : CfO w.heap.size W smC ⟨some ⟨w.heap.size + 1, 0, none⟩, 2, some ⟨w.heap.size + 1 + 1, 0, none⟩, 2, some ⟨w.heap.size + 1 + 1 + 1 + 1, 0, none⟩, 1, [⟨⟨1, [smI]⟩, some ⟨w.heap.size + 1 + 1 + 1, 0, none⟩, 1⟩]⟩ := by
    have o1 := (Owned.nil w.heap.size W).cons (d := prD ⟨⟨1, [smI]⟩, some ⟨w.heap.size + 1 + 1 + 1, 0, none⟩, 1⟩) (row_new (size := 5) (n := 1) h3 rfl (by decide)) (fun k hk => by have e := Option.some.inj hk; simp only at e; omega) (fun d hd => by cases hd)
    have o2 := o1.cons (d := ⟨42, 2, some ⟨w.heap.size + 1 + 1 + 1 + 1, 0, none⟩, 1, 1, psC [⟨⟨1, [smI]⟩, some ⟨w.heap.size + 1 + 1 + 1, 0, none⟩, 1⟩]⟩) (row_new (size := 2) (n := 1) h4 rfl (by decide)) (fun k hk => by have e := Option.some.inj hk; simp only at e; omega) (fun d hd k hk e2 => by
      simp only [List.mem_cons, List.not_mem_nil, or_false] at hd
      subst hd
      have e := Option.some.inj hk
      have e3 := Option.some.inj e2
      simp only at e e3
      omega)
    have o3 := o2.cons (d := ⟨3, 1, some ⟨w.heap.size + 1 + 1, 0, none⟩, 2, 2, iC [0, 1]⟩) (row_new (size := 1) (n := 2) h2 rfl (by decide)) (fun k hk => by have e := Option.some.inj hk; simp only at e; omega) (fun d hd k hk e2 => by
      simp only [List.mem_cons, List.not_mem_nil, or_false] at hd
      have e := Option.some.inj hk
      rcases hd with rfl | rfl
      all_goals
        have e3 := Option.some.inj e2
        simp only at e e3
        omega)
    have o4 := o3.cons (d := ⟨65, 1, some ⟨w.heap.size + 1, 0, none⟩, 2, 2, labC [0, 1]⟩) (row_new (size := 1) (n := 2) h1 rfl (by decide)) (fun k hk => by have e := Option.some.inj hk; simp only at e; omega) (fun d hd k hk e2 => by
      simp only [List.mem_cons, List.not_mem_nil, or_false] at hd
      have e := Option.some.inj hk
      rcases hd with rfl | rfl | rfl
      all_goals
        have e3 := Option.some.inj e2
        simp only at e e3
        omega)
    exact ⟨o4, rfl⟩
  refine bodyPost_ret (v := cfV smC ⟨some ⟨w.heap.size + 1, 0, none⟩, 2, some ⟨w.heap.size + 1 + 1, 0, none⟩, 2, some ⟨w.heap.size + 1 + 1 + 1 + 1, 0, none⟩, 1, [⟨⟨1, [smI]⟩, some ⟨w.heap.size + 1 + 1 + 1, 0, none⟩, 1⟩]⟩) ?_ rfl ⟨_, rfl, HO, hb⟩
  simp [results, Tryd.results25, go_sem, cfV, cfA, smC, d0, d1, d2, d3, d4, d5, d6]
end Go.Proofs.YtmjokinagbpihaaDoor
