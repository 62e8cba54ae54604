/- A whole source. -/
import Derived.Test.YtaoehbnjipegoaaDoorLForg
namespace Go.Proofs.YtaoehbnjipegoaaDoor
open Go.RowKit Go.Shelf
variable {w : World} {P M : Nat} {s : ByteArray} {at_ en : Nat} {tm : Bool} {tv bv ov : Value} {toks : List Tok} {terms : List Bool}
theorem Got.mono {b b2 : Nat} (h : Got w b tv bv toks terms) (hb : b2 ≤ b) : Got w b2 tv bv toks terms := by
  obtain ⟨⟨a1, a2⟩, ⟨b1, b2'⟩⟩ := h
  refine ⟨⟨a1, ?_⟩, ⟨b1, ?_⟩⟩
  · rcases a2 with a2 | ⟨g, cap, cur, e1, e3, e4⟩
    · exact .inl a2
    · exact .inr ⟨g, cap, cur, e1, by omega, e4⟩
  · rcases b2' with a2 | ⟨g, cap, cur, e1, e3, e4⟩
    · exact .inl a2
    · exact .inr ⟨g, cap, cur, e1, by omega, e4⟩
theorem Got.gr {w' : World} {b : Nat} (h : Got w b tv bv toks terms) (g : Gr w w') : Got w' b tv bv toks terms := ⟨ownsRow_gr h.tokR g, ownsRow_gr h.termR g⟩
theorem Fr.gr {base : Nat} {w w' : World} (h : Fr P base w w') (hP : base ≤ P) (hb : base = w.heap.size) : Gr w w' :=
  ⟨h.os, h.tape, h.output, h.size, fun k hk => h.block k (by omega) (by omega)⟩
set_option maxRecDepth 100000 in
set_option maxHeartbeats 2000000 in
theorem scan_p (hs : s.size ≤ 4000) (hS : Steps s 0 0 true toks terms) (hn : toks.length ≤ 1000 ∧ terms.length ≤ 4000) (hO : ∀ n (h : n < s.data.toList.length), ownB (s.data.toList[n].toNat : Int) = true) (w : World) :
    Calls Tryd.prog 25 #[.string s] w fun e w' => ∃ (P M a e2 : Nat) (t : Bool) (tv bv : Value), e = .returned (.tuple #[.pointer (some ⟨P, 0, none⟩), .int .i64 0, .int .i64 0]) ∧ Sc w' P M s a e2 t tv bv (.slice none 0 0) ∧ Got w' w.heap.size tv bv toks terms ∧ Gr w w' := by
  have HS := Lib.hid hS
  have HF := Lib.hid (fun w => foreign_no s (by omega) hO w)
  have hs1 : (s.size : Int) ≤ 4000 := by omega
  clear hS hO
  have hmm := @run_makeMap Tryd.prog
  go_enter Tryd.func25, Tryd.ntmps25
  go_wp2_with fail
  generalize hW : (w.alloc (.map #[] 0)).alloc (.cells #[.string s, .int .i64 0, .int .i64 0, .bool true, .slice none 0 0, .slice none 0 0, .slice none 0 0, .map (some w.heap.size)] 47) = W1 at *
  have S1 : Hid (Sc W1 (w.heap.size + 1) w.heap.size s 0 0 true (.slice none 0 0) (.slice none 0 0) (.slice none 0 0)) := Lib.hid (by
    rw [← hW]
    refine ⟨?_, ?_, by omega⟩
    · have := heap_alloc_new (w.alloc (.map #[] 0)) (.cells #[.string s, .int .i64 0, .int .i64 0, .bool true, .slice none 0 0, .slice none 0 0, .slice none 0 0, .map (some w.heap.size)] 47)
      simpa using this
    · rw [((Gr.refl (w.alloc (.map #[] 0))).alloc _).block _ (by simp)]
      exact heap_alloc_new w _)
  have G1 : Hid (Gr w W1) := Lib.hid (by rw [← hW]; exact ((Gr.refl w).alloc _).alloc _)
  have Z1 : Hid (W1.heap.size = w.heap.size + 2) := Lib.hid (by rw [← hW]; simp)
  clear hW
  have Hn := Lib.hid hn
  clear hn
  refine (run_p S1.out (by omega) HS.out (by have := Hn.out; omega)).mono ?_
  rintro e w2 ⟨a2, e2, t2, tv, bv, rfl, hS2, hG2, hF2⟩
  have hb1 : w.heap.size ≤ W1.heap.size := by have := Z1.out; omega
  have S2 := Lib.hid hS2
  have Gt2 := Lib.hid (hG2.mono (b2 := w.heap.size) (by omega))
  have G2 : Hid (Gr w w2) := Lib.hid ⟨hF2.os.trans G1.out.os, hF2.tape.trans G1.out.tape, hF2.output.trans G1.out.output, Nat.le_trans hb1 hF2.size, fun k hk => (hF2.block k (by omega) (by omega)).trans (G1.out.block k hk)⟩
  clear hS2 hG2 hF2
  go_wp2_with fail
  refine (HF.out _).mono ?_
  rintro e w3 ⟨rfl, g3⟩
  have S3 := Lib.hid (S2.out.gr g3)
  have Gt3 := Lib.hid (Gt2.out.gr g3)
  have G3 := Lib.hid (G2.out.trans g3)
  clear g3
  obtain ⟨ao, cap, rfl⟩ := ownsRow_shape Gt3.out.tokR
  obtain ⟨c0, c1, c2, c3, c4, c5, c6, c7, cf⟩ := S3.out.cells
  have hn1 : (toks.length : Int) ≤ 1000 := by have := Hn.out; omega
  have hn2 : ¬ (1000 : Int) < (toks.length : Int) := by omega
  have hn3 : decide ((1000 : Int) < (toks.length : Int)) = false := by simp; omega
  clear hn1
  go_wp2_with fail
  refine bodyPost_ret (v := .tuple #[.pointer (some ⟨w.heap.size + 1, 0, none⟩), .int .i64 0, .int .i64 0]) (by simp [results, Tryd.results25, go_sem]) rfl ?_
  exact ⟨_, _, _, _, _, _, _, rfl, S3.out, Gt3.out, G3.out⟩
set_option maxRecDepth 100000 in
set_option maxHeartbeats 2000000 in
theorem lex_p (hs : s.size ≤ 4000) (hS : Steps s 0 0 true toks terms) (hn : toks.length ≤ 1000 ∧ terms.length ≤ 4000) (hO : ∀ n (h : n < s.data.toList.length), ownB (s.data.toList[n].toNat : Int) = true) (w : World) :
    Calls Tryd.prog 15 #[.string s] w fun e w' => ∃ tv, e = .returned (.tuple #[tv, .int .i64 toks.length, .int .i64 0]) ∧ OwnT w' w.heap.size tv toks ∧ Gr w w' := by
  have HF := Lib.hid (fun w => scan_p hs hS hn hO w)
  clear hS hO hn
  go_enter Tryd.func15, Tryd.ntmps15
  go_wp2_with fail
  refine (HF.out _).mono ?_
  rintro e w3 ⟨P, M, a2, e2, t2, tv, bv, rfl, hS3, hG3, g3⟩
  have S3 := Lib.hid hS3
  have Gt3 := Lib.hid hG3
  have G3 := Lib.hid g3
  clear g3 hS3 hG3
  obtain ⟨ao, cap, rfl⟩ := ownsRow_shape Gt3.out.tokR
  obtain ⟨c0, c1, c2, c3, c4, c5, c6, c7, cf⟩ := S3.out.cells
  go_wp2_with fail
  go_quiet (fail)
  go_wp2_with fail
  refine bodyPost_ret (v := .tuple #[.slice ao toks.length cap, .int .i64 (toks.length : Int), .int .i64 0]) (by simp [results, Tryd.results15, go_sem]) rfl ?_
  exact ⟨_, rfl, ownsRow_gr Gt3.out.tokR ((Gr.refl w3).drewN _), G3.out.drewN _⟩
end Go.Proofs.YtaoehbnjipegoaaDoor
