/- All tokens: the deferred closure where nothing panics. -/
import Derived.Test.YtaoehbnjipegoaaDoorLSkip
import Derived.Defers
import Derived.Recover
namespace Go.Proofs.YtaoehbnjipegoaaDoor
open Go.RowKit Go.Shelf
theorem assert_none (w : World) : (Instr.typeAssert Value.nilIface 20 65 true).run Tryd.prog w = .ok (.tuple #[.int .i64 0, .bool false]) w := by kernel_rfl
set_option maxRecDepth 10000 in
theorem catch_idle (p : Addr) (w : World) :
    CallsD Tryd.prog 43 #[.pointer (some p)] .returning w fun e u' w' => e = .returned (.tuple #[]) ∧ u' = .returning ∧ w' = w := by
  refine callsD_of_wpS Tryd.func43 rfl fun c₀ cs hu => ?_
  have hA : (#[Value.pointer (some p)] ++ Array.replicate (Tryd.f43.ntmps - (#[Value.pointer (some p)] : Array Value).size) undef) = #[Value.pointer (some p), undef, undef, undef, undef, undef, undef, undef, undef, undef] := by kernel_rfl
  rw [hA]
  clear hA
  apply wpS_seq
  apply wpS_region
  simp [wpOpsS, go_sem, recoverD, hu, assert_none, Exit.thenS]
  apply wpS_seq
  apply wpS_region
  simp [wpOpsS, go_sem, Exit.thenS]
  refine wpS_cond (t := false) (by simp [Act.eval]) ?_
  simp only [Bool.false_eq_true, if_false]
  refine wpS_of_wp (wp_skip ?_)
  cases c₀
  simp_all [bodyPostS, results, Tryd.results43]
/-- the steps of the scanner from a place on: blanks and tokens -/
inductive Steps (s : ByteArray) : Nat → Nat → Bool → List Tok → List Bool → Prop
  | done {at_ en : Nat} {tm : Bool} (h : at_ ≤ s.data.toList.length) (hb : ∀ n (_ : at_ ≤ n) (h : n < s.data.toList.length), blkB (s.data.toList[n].toNat : Int) = true) : Steps s at_ en tm [] []
  | tok {at_ en a b : Nat} {tm : Bool} {k : Int} {tx rp mo : ByteArray} {toks : List Tok} {terms : List Bool} (ha : at_ ≤ a) (hl : a < s.data.toList.length) (hb : ∀ n (_ : at_ ≤ n) (_ : n < a) (h : n < s.data.toList.length), blkB (s.data.toList[n].toNat : Int) = true)
    (hn : blkB (s.data.toList[a].toNat : Int) = false ∧ s.data.toList[a] ≠ 35) (hab : a < b) (hT : ∀ P M tv bv ov, Token P M s a b en tm tv bv ov ⟨k, 0, tx, rp, mo, 0⟩) (h1 : k = 3 → tx.data.toList ≠ [123]) (h2 : k = 3 → tx.data.toList ≠ [125])
    (h : Steps s b b (behindB k tx.data.toList 0 tm) toks terms) : Steps s at_ en tm (⟨k, a, tx, rp, mo, 0⟩ :: toks) (tm :: terms)
variable {w : World} {P M : Nat} {s : ByteArray} {at_ en : Nat} {tm : Bool} {tv bv ov : Value} {toks : List Tok} {terms : List Bool}
theorem Fr.trans {base : Nat} {a b c : World} (h : Fr P base a b) (k : Fr P base b c) : Fr P base a c :=
  ⟨k.os.trans h.os, k.tape.trans h.tape, k.output.trans h.output, Nat.le_trans h.size k.size, fun i h1 h2 => (k.block i h1 h2).trans (h.block i h1 h2)⟩
theorem Fr.of_but {base : Nat} {a b : World} (k : But P a b) (hb : base ≤ a.heap.size) : Fr P base a b := Fr.but (Fr.refl P base a) k hb
theorem skip_t {b : Nat} (h : Sc w P M s at_ en tm tv bv ov) (hs : s.size ≤ 140737488351232) (hab : at_ ≤ b) (hb : b < s.data.toList.length) (hbl : ∀ n (_ : at_ ≤ n) (_ : n < b) (h : n < s.data.toList.length), blkB (s.data.toList[n].toNat : Int) = true) (hn : blkB (s.data.toList[b].toNat : Int) = false ∧ s.data.toList[b] ≠ 35) :
    Calls Tryd.prog 44 #[.pointer (some ⟨P, 0, none⟩)] w fun e w' => e = .returned (.bool true) ∧ Sc w' P M s b en tm tv bv ov ∧ But P w w' := by
  have := skip_p h hs b hab (Nat.le_of_lt hb) hbl (fun _ => hn)
  rw [show decide (b < s.data.toList.length) = true by simpa using hb] at this
  exact this
theorem skip_f (h : Sc w P M s at_ en tm tv bv ov) (hs : s.size ≤ 140737488351232) (hab : at_ ≤ s.data.toList.length) (hbl : ∀ n (_ : at_ ≤ n) (h : n < s.data.toList.length), blkB (s.data.toList[n].toNat : Int) = true) :
    Calls Tryd.prog 44 #[.pointer (some ⟨P, 0, none⟩)] w fun e w' => e = .returned (.bool false) ∧ Sc w' P M s s.data.toList.length en tm tv bv ov ∧ But P w w' := by
  have := skip_p h hs s.data.toList.length hab (Nat.le_refl _) (fun n h1 _ h => hbl n h1 h) (fun h => absurd h (Nat.lt_irrefl _))
  rw [show decide (s.data.toList.length < s.data.toList.length) = false by simp] at this
  exact this
theorem Got.but {w w' : World} {base : Nat} (h : Got w base tv bv toks terms) (k : But P w w') (hP : P < base) : Got w' base tv bv toks terms := ⟨own_but h.tokR k hP, own_but h.termR k hP⟩
theorem Sc.other (h : Sc w P M s at_ en tm tv bv ov) {g j : Nat} {v : Value} (h1 : g ≠ P) (h2 : g ≠ M) : Sc (w.setCell ⟨g, j, none⟩ v) P M s at_ en tm tv bv ov :=
  ⟨by simp [World.setCell, Array.getElem?_modify, h1, h.blk], by simp [World.setCell, Array.getElem?_modify, h2, h.mp], h.ne⟩
theorem Got.other {base : Nat} (h : Got w base tv bv toks terms) {g j : Nat} {v : Value} (h1 : g < base) : Got (w.setCell ⟨g, j, none⟩ v) base tv bv toks terms :=
  ⟨own_set h.tokR (fun e => own_apart h.tokR (.inl h1) e.symm) j v, own_set h.termR (fun e => own_apart h.termR (.inl h1) e.symm) j v⟩
theorem Got.nil (w : World) (base : Nat) : Got w base (.slice none 0 0) (.slice none 0 0) [] [] := ⟨⟨by simp [cellsT], .inl ⟨rfl, rfl⟩⟩, ⟨by simp, .inl ⟨rfl, rfl⟩⟩⟩
theorem Steps.le (h : Steps s at_ en tm toks terms) : at_ ≤ s.data.toList.length := by
  cases h with
  | done h _ => exact h
  | tok ha hl => omega
set_option maxRecDepth 100000 in
set_option maxHeartbeats 2000000 in
theorem run_p (h : Sc w P M s at_ en tm (.slice none 0 0) (.slice none 0 0) ov) (hs : s.size ≤ 140737488351232) (hS : Steps s at_ en tm toks terms) (hn : toks.length ≤ 4000 ∧ terms.length ≤ 4000) :
    Calls Tryd.prog 34 #[.pointer (some ⟨P, 0, none⟩)] w fun e w' => ∃ (a2 e2 : Nat) (t2 : Bool) (tv bv : Value), e = .returned (.int .i64 s.size) ∧ Sc w' P M s a2 e2 t2 tv bv ov ∧ Got w' (w.heap.size + 1) tv bv toks terms ∧ Fr P w.heap.size w w' := by
  have H := Lib.hid h
  have HS := Lib.hid hS
  have hmf : ∀ (fn : Fn) (first cap : Array Value) (w : World), (Instr.makeFunc fn first cap).run Tryd.prog w = .ok (.func fn first cap) w := fun _ _ _ _ => rfl
  obtain ⟨c0, c1, c2, c3, c4, c5, c6, c7, cf⟩ := (h.gr ((Gr.refl w).alloc (.cells #[.int .i64 0] 3))).cells
  have hP := h.lt.1
  have hM := h.lt.2
  clear h hS
  go_enter_defers Tryd.func34, Tryd.ntmps34
  go_wp2_with fail
  generalize hW : w.alloc (.cells #[.int .i64 (s.size : Int)] 3) = W1 at *
  have S1 := Lib.hid (by rw [← hW]; exact H.out.gr ((Gr.refl w).alloc _) : Sc W1 P M s at_ en tm (.slice none 0 0) (.slice none 0 0) ov)
  have R1 := Lib.hid (by rw [← hW]; exact heap_alloc_new w _ : W1.heap[w.heap.size]? = some (.cells #[.int .i64 (s.size : Int)] 3 (0, 0)))
  have F1 := Lib.hid (by rw [← hW]; exact Fr.of_but (But.of_gr ((Gr.refl w).alloc _)) (Nat.le_refl _) : Fr P w.heap.size w W1)
  have Z1 := Lib.hid (by rw [← hW]; simp : W1.heap.size = w.heap.size + 1)
  clear hW c0 c1 c2 c3 c4 c5 c6 c7 cf
  have Hn := Lib.hid hn
  clear hn
  go_loopw [] (fun wr => ∃ (a e : Nat) (t : Bool) (tv bv : Value) (tk1 : List Tok) (tm1 : List Bool) (tk2 : List Tok) (tm2 : List Bool), toks = tk1 ++ tk2 ∧ terms = tm1 ++ tm2 ∧ Hid (Steps s a e t tk2 tm2) ∧ Sc wr P M s a e t tv bv ov ∧ Got wr (w.heap.size + 1) tv bv tk1 tm1 ∧ Fr P (w.heap.size + 1) W1 wr) (fun wr => atLeft s.size P wr)
  case atStart => exact ⟨at_, en, tm, _, _, [], [], toks, terms, rfl, rfl, HS, S1.out, Got.nil _ _, Fr.refl _ _ _⟩
  case round =>
    obtain ⟨a, e, t, tv, bv, tk1, tm1, tk2, tm2, ht1, ht2, hSt, hSc, hG, hF⟩ := hrel
    have S := Lib.hid hSc
    have G := Lib.hid hG
    have F := Lib.hid hF
    have T1 := Lib.hid ht1
    have T2 := Lib.hid ht2
    clear hSc hG hF ht1 ht2
    have hle := hSt.out.le
    have hPs : P < w.heap.size + 1 := by omega
    have hMs : M < w.heap.size + 1 := by omega
    cases hSt.out with
    | done hl hb =>
      have Hle := Lib.hid hle
      have Hb := Lib.hid hb
      clear hle hl hb
      go_wp2_with fail
      refine (skip_f S.out hs Hle.out Hb.out).mono ?_
      rintro e w2 ⟨rfl, hS2, hb2⟩
      have S2 := Lib.hid hS2
      have F2 := Lib.hid (Fr.but F.out hb2 (by have := F.out.size; have := Z1.out; omega))
      have G2 := Lib.hid (G.out.but hb2 hPs)
      have hne : w.heap.size ≠ P := by omega
      have hR2 : w2.heap[w.heap.size]? = some (.cells #[.int .i64 (s.size : Int)] 3 (0, 0)) := by
        rw [F2.out.block _ (Nat.lt_succ_self _) hne]; exact R1.out
      obtain ⟨kc, kf⟩ := cellsOf hR2
      have k0 := kc 0
      simp at k0
      have kf0 := kf 0
      have HR2 := Lib.hid hR2
      have e1 : toks = tk1 := by rw [T1.out, List.append_nil]
      have e2 : terms = tm1 := by rw [T2.out, List.append_nil]
      clear hS2 hb2 kc kf hR2
      go_wp2_with fail
      refine leaves_cons (f := 43) (args := #[.pointer (some ⟨w.heap.size, 0, none⟩)]) (by simp) (by simp [go_sem]) ?_
      refine (catch_idle ⟨w.heap.size, 0, none⟩ _).mono ?_
      rintro e u' w'' ⟨rfl, rfl, rfl⟩
      have kc2 : (w2.setCell ⟨w.heap.size, 0, none⟩ (.int .i64 (s.size : Int))).cell? ⟨w.heap.size, 0, none⟩ = some (.int .i64 (s.size : Int)) := by
        have e := HR2.out
        simp [World.cell?, World.setCell, Array.getElem?_modify, e]
      refine ⟨.int .i64 (s.size : Int), by simp [results, Tryd.results34, go_sem, kc2], _, _, _, _, _, rfl, S2.out.other hne (by omega), by rw [e1, e2]; exact G2.out.other (Nat.lt_succ_self _), ?_⟩
      refine ⟨F2.out.os.trans F1.out.os, F2.out.tape.trans F1.out.tape, F2.out.output.trans F1.out.output, ?_, fun i h1 h2 => ?_⟩
      · have := F2.out.size; have := F1.out.size; simp [World.setCell]; omega
      · have e3 := F2.out.block i (by omega) h2
        have e4 := F1.out.block i h1 h2
        have : w.heap.size ≠ i := by omega
        simp [World.setCell, Array.getElem?_modify, this]
        exact e3.trans e4
    | tok ha hl hb hn hab hT h1 h2 hr =>
      have Hha := Lib.hid ha
      have Hhl := Lib.hid hl
      have Hhb := Lib.hid hb
      rename_i a' b' k tx rp mo toks' terms'
      have Hhn : Hid (∀ h : a' < s.data.toList.length, blkB (s.data.toList[a'].toNat : Int) = false ∧ s.data.toList[a'] ≠ 35) := Lib.hid (fun _ => hn)
      have Hab := Lib.hid hab
      have HhT := Lib.hid hT
      have Hh1 := Lib.hid h1
      have Hh2 := Lib.hid h2
      have Hr := Lib.hid hr
      clear hle ha hl hb hn hab hT h1 h2 hr
      go_wp2_with fail
      refine (skip_t S.out hs Hha.out Hhl.out Hhb.out (Hhn.out Hhl.out)).mono ?_
      rintro e w2 ⟨rfl, hS2, hb2⟩
      have hq : w.heap.size + 1 ≤ w2.heap.size := by have := F.out.size; have := Z1.out; have := hb2.size; omega
      have S2 := Lib.hid hS2
      have F2 := Lib.hid (Fr.but F.out hb2 (by have := F.out.size; have := Z1.out; omega))
      have G2 := Lib.hid (G.out.but hb2 hPs)
      clear hS2 hb2
      go_wp2_with fail
      refine (read_p S2.out G2.out hPs hMs hq (HhT.out _ _ _ _ _) Hh1.out Hh2.out (by have := Hn.out; rw [T1.out, T2.out] at this; simp at this; omega)).mono ?_
      rintro e w3 ⟨tv3, bv3, rfl, hS3, hG3, hF3⟩
      have S3 := Lib.hid hS3
      have F3 := Lib.hid (F2.out.trans hF3)
      have G3 := Lib.hid hG3
      clear hS3 hG3 hF3
      go_wp2_with fail
      go_roundw
      case rel => exact ⟨_, _, _, tv3, bv3, _, _, _, _, by rw [T1.out]; simp, by rw [T2.out]; simp, Hr, S3.out, G3.out, F3.out⟩
      case measure =>
        have e1 := S.out.cells.2.1
        have e2 := S3.out.cells.2.1
        have := Hab.out
        have := Hha.out
        have := Hhl.out
        rw [sizeL] at this
        simp only [atLeft, e1, e2]
        omega
end Go.Proofs.YtaoehbnjipegoaaDoor
