/- Tokens that are the same, on both sides. -/
import Derived.Test.YtaoehbnjipegoaaDoorLKnow
namespace Go.Proofs.YtaoehbnjipegoaaDoor
open Go.RowKit Go.Shelf
def sameT (t u : Tok) : Bool := t.kind == u.kind && (t.text.toList == u.text.toList && (t.repl.toList == u.repl.toList && (t.more.toList == u.more.toList && t.opn == u.opn)))
set_option maxRecDepth 100000 in
theorem tokSame_p (t u : Tok) (w : World) : Calls Tryd.prog 32 #[t.val, u.val] w fun e w' => e = .returned (.bool (sameT t u)) ∧ Gr w w' := by
  obtain ⟨k1, p1, s1, r1, m1, o1⟩ := t
  obtain ⟨k2, p2, s2, r2, m2, o2⟩ := u
  rw [show Tok.val ⟨k1, p1, s1, r1, m1, o1⟩ = .agg #[.int .i64 k1, .int .i64 p1, .string s1, .string r1, .string m1, .int .i64 o1] from rfl, show Tok.val ⟨k2, p2, s2, r2, m2, o2⟩ = .agg #[.int .i64 k2, .int .i64 p2, .string s2, .string r2, .string m2, .int .i64 o2] from rfl]
  go_enter Tryd.func32, Tryd.ntmps32
  go_wp2_with fail
  all_goals
    go_ret
    refine ⟨?_, ?_⟩
  all_goals first | exact ((Gr.refl w).alloc _).alloc _ | (simp [sameT]; simp_all)
theorem tokSame_r (t u : Tok) (w : World) : Calls Tryd.prog 20 #[t.val, u.val] w fun e w' => e = .returned (.bool (sameT t u)) ∧ Gr w w' := by
  obtain ⟨k1, p1, s1, r1, m1, o1⟩ := t
  obtain ⟨k2, p2, s2, r2, m2, o2⟩ := u
  rw [show Tok.val ⟨k1, p1, s1, r1, m1, o1⟩ = .agg #[.int .i64 k1, .int .i64 p1, .string s1, .string r1, .string m1, .int .i64 o1] from rfl, show Tok.val ⟨k2, p2, s2, r2, m2, o2⟩ = .agg #[.int .i64 k2, .int .i64 p2, .string s2, .string r2, .string m2, .int .i64 o2] from rfl]
  go_enter Tryd.func20, Tryd.ntmps20
  go_wp2_with fail
  all_goals
    go_ret
    refine ⟨?_, ?_⟩
  all_goals first | exact ((Gr.refl w).alloc _).alloc _ | (simp [sameT]; simp_all)
end Go.Proofs.YtaoehbnjipegoaaDoor
