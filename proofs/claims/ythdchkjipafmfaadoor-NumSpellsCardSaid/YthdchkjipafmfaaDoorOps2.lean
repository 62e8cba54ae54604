/- operations of package num: the map that it makes. -/
import Derived.Test.YthdchkjipafmfaaDoorOps
namespace Go.Proofs.YthdchkjipafmfaaDoor
open Go.RowKit

def OpsPost (w : World) (e : Ending) (w' : World) : Prop := ∃ b d1 d2 d3, e = .returned (.map (some b)) ∧ Stg w w' b 9 d1 d2 d3

theorem isChk_new {W : World} {b f y : Nat} {why : Int} (h1 : W.cell? ⟨y + 1, 0, none⟩ = some (.func (.func f) #[] #[])) (h2 : W.cell? ⟨y, 0, none⟩ = some (.int .i64 why)) (hb : y + 1 < b) :
    IsChk W b f why (.func (.func 120) #[] #[.pointer (some ⟨y + 1, 0, none⟩), .pointer (some ⟨y, 0, none⟩)]) :=
  ⟨y + 1, y, by omega, by omega, rfl, h1, h2⟩
theorem isOp_new0 {w0 W : World} {b n c : Nat} {d1 d2 d3 : Value} (h : Stg w0 W b n d1 d2 d3) (t1 t2 : TypeId) :
    IsOp ((W.alloc (.cells #[.func (.func c) #[] #[]] t1)).alloc (.cells #[.slice none 0 0] t2)) b c none (.func (.func 121) #[] #[.pointer (some ⟨W.heap.size + 1, 0, none⟩), .pointer (some ⟨W.heap.size, 0, none⟩)]) := by
  have := h.hi
  refine ⟨W.heap.size, W.heap.size + 1, by omega, by omega, rfl, ?_, .inl ⟨rfl, ?_⟩⟩ <;> simp [go_sem]
theorem isOp_new1 {w0 W : World} {b n c f : Nat} {why : Int} {d1 d2 d3 u : Value} (h : Stg w0 W b n d1 d2 d3) (hu : IsChk W b f why u) (t0 t1 t2 : TypeId) :
    IsOp (((W.alloc (.cells #[u] t0)).alloc (.cells #[.func (.func c) #[] #[]] t1)).alloc (.cells #[.slice (some ⟨W.heap.size, 0, none⟩) 1 1] t2)) b c (some (f, why)) (.func (.func 121) #[] #[.pointer (some ⟨W.heap.size + 1 + 1, 0, none⟩), .pointer (some ⟨W.heap.size + 1, 0, none⟩)]) := by
  have := h.hi
  refine ⟨W.heap.size + 1, W.heap.size + 1 + 1, by omega, by omega, rfl, ?_, .inr ⟨f, why, W.heap.size, u, rfl, by omega, ?_, ?_, ?_⟩⟩
  · simp [go_sem]
  · simp [go_sem]
  · simp [go_sem]
  · exact ((hu.kept (World.grownBy_alloc _ _ _)).kept (World.grownBy_alloc _ _ _)).kept (World.grownBy_alloc _ _ _)

set_option maxHeartbeats 1000000 in
theorem operations_any (w : World) : Calls Tryd.prog 61 #[] w (OpsPost w) := by
  have hmm := @run_makeMap Tryd.prog
  go_enter Tryd.func61, Tryd.ntmps61
  go_wp2_with fail
  refine (refuse_any _ _ _ _ _).mono ?_
  rintro e w1 ⟨rfl, rfl⟩
  go_wp2_with fail
  refine (refuse_any _ _ _ _ _).mono ?_
  rintro e w1 ⟨rfl, rfl⟩
  go_wp2_with fail
  refine (refuse_any _ _ _ _ _).mono ?_
  rintro e w1 ⟨rfl, rfl⟩
  go_wp2_with fail
  let W6 := (((((w.alloc (.cells #[.int .i64 2] 3)).alloc (.cells #[.func (.func 88) #[] #[]] 41)).alloc (.cells #[.int .i64 1] 3)).alloc (.cells #[.func (.func 89) #[] #[]] 41)).alloc (.cells #[.int .i64 1] 3)).alloc (.cells #[.func (.func 90) #[] #[]] 41)
  have z6 : W6.heap.size = w.heap.size + 1 + 1 + 1 + 1 + 1 + 1 := by simp [W6]
  have hS := Stg.start (w0 := w) (W := W6) (by exact ((((((Gr.refl w).alloc _).alloc _).alloc _).alloc _).alloc _).alloc _)
    (isChk_new (y := w.heap.size) (by simp [W6, go_sem]) (by simp [W6, go_sem]) (by omega))
    (isChk_new (y := w.heap.size + 1 + 1) (by simp [W6, go_sem]) (by simp [W6, go_sem]) (by omega))
    (isChk_new (y := w.heap.size + 1 + 1 + 1 + 1) (by simp [W6, go_sem]) (by simp [W6, go_sem]) (by omega))
  rw [z6] at hS
  clear z6 hmm
  change Calls Tryd.prog 91 _ (W6.alloc (.map #[] 0)) _
  generalize W6.alloc (.map #[] 0) = W at hS ⊢
  clear W6
  generalize w.heap.size + 1 + 1 + 1 + 1 + 1 + 1 = b at hS ⊢
  refine (checked_any _ _ _ _ _ _ _).mono ?_
  rintro e W1 ⟨rfl, rfl⟩
  go_wp2_with (refine wpList_insert_stg rfl _ _ _ rfl ((hS.alloc _).alloc _) rfl rfl _ rfl (isOp_new0 hS _ _) ?_)
  intro V1 hS1
  clear hS
  go_wp2_with fail
  refine (checked_any _ _ _ _ _ _ _).mono ?_
  rintro e W1 ⟨rfl, rfl⟩
  go_wp2_with (refine wpList_insert_stg rfl _ _ _ rfl ((hS1.alloc _).alloc _) rfl rfl _ rfl (isOp_new0 hS1 _ _) ?_)
  intro V2 hS2
  clear hS1
  go_wp2_with fail
  refine (checked_any _ _ _ _ _ _ _).mono ?_
  rintro e W1 ⟨rfl, rfl⟩
  go_wp2_with (refine wpList_insert_stg rfl _ _ _ rfl ((hS2.alloc _).alloc _) rfl rfl _ rfl (isOp_new0 hS2 _ _) ?_)
  intro V3 hS3
  clear hS2
  go_wp2_with fail
  refine (checked_any _ _ _ _ _ _ _).mono ?_
  rintro e W1 ⟨rfl, rfl⟩
  go_wp2_with (refine wpList_insert_stg rfl _ _ _ rfl (((hS3.alloc _).alloc _).alloc _) rfl rfl _ rfl (isOp_new1 hS3 hS3.c1 _ _ _) ?_)
  intro V4 hS4
  clear hS3
  go_wp2_with fail
  refine (checked_any _ _ _ _ _ _ _).mono ?_
  rintro e W1 ⟨rfl, rfl⟩
  go_wp2_with (refine wpList_insert_stg rfl _ _ _ rfl (((hS4.alloc _).alloc _).alloc _) rfl rfl _ rfl (isOp_new1 hS4 hS4.c1 _ _ _) ?_)
  intro V5 hS5
  clear hS4
  go_wp2_with fail
  refine (checked_any _ _ _ _ _ _ _).mono ?_
  rintro e W1 ⟨rfl, rfl⟩
  go_wp2_with (refine wpList_insert_stg rfl _ _ _ rfl (((hS5.alloc _).alloc _).alloc _) rfl rfl _ rfl (isOp_new1 hS5 hS5.c2 _ _ _) ?_)
  intro V6 hS6
  clear hS5
  go_wp2_with fail
  refine (checked_any _ _ _ _ _ _ _).mono ?_
  rintro e W1 ⟨rfl, rfl⟩
  go_wp2_with (refine wpList_insert_stg rfl _ _ _ rfl (((hS6.alloc _).alloc _).alloc _) rfl rfl _ rfl (isOp_new1 hS6 hS6.c3 _ _ _) ?_)
  intro V7 hS7
  clear hS6
  go_wp2_with fail
  refine (checked_any _ _ _ _ _ _ _).mono ?_
  rintro e W1 ⟨rfl, rfl⟩
  go_wp2_with (refine wpList_insert_stg rfl _ _ _ rfl (((hS7.alloc _).alloc _).alloc _) rfl rfl _ rfl (isOp_new1 hS7 hS7.c3 _ _ _) ?_)
  intro V8 hS8
  clear hS7
  go_wp2_with fail
  refine (checked_any _ _ _ _ _ _ _).mono ?_
  rintro e W1 ⟨rfl, rfl⟩
  go_wp2_with (refine wpList_insert_stg rfl _ _ _ rfl (((hS8.alloc _).alloc _).alloc _) rfl rfl _ rfl (isOp_new1 hS8 hS8.c3 _ _ _) ?_)
  intro V9 hS9
  clear hS8
  go_wp2
  go_ret
  exact ⟨b, _, _, _, rfl, hS9⟩
end Go.Proofs.YthdchkjipafmfaaDoor
