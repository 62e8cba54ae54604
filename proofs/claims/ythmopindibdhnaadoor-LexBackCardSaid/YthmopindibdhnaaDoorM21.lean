/- GRd GCatch GRun GRun2 GForg GScan GLex GFld -/
import Derived.Test.YthmopindibdhnaaDoorM20
import Derived.Defers
import Derived.Test.YthmopindibdhnaaDoorM10
import Derived.Test.YthmopindibdhnaaDoorM11
import Derived.WalkSmall
namespace Go.Proofs.YthmopindibdhnaaDoor.G
open Go.RowKit Go.Shelf Go.Maps
variable {w w' : World} {P : Nat} {M : GoMap} {s : ByteArray} {at_ en : Nat} {tm : Bool} {tv bv ov : Value} {rt : List RTok} {tms : List Bool} {ops : List Nat}
theorem keep_of_gr (g : Gr w w') : KeepT P w w' := fun i _ hi _ _ => by rw [g.block i (Array.getElem?_eq_some_iff.1 hi).1]; exact hi
theorem keep_of_but (g : But P w w') : KeepT P w w' := fun i _ hi hne _ => by rw [g.block i (Array.getElem?_eq_some_iff.1 hi).1 (fun e => hne (by injection e))]; exact hi
theorem last_rev (l : List Bool) (hne : l.reverse ≠ []) : l.headD false = l.reverse.getLast hne := by
  cases l with
  | nil => exact absurd rfl hne
  | cons a t => simp
/-- a brace is told as the plain scanner tells it -/
theorem brace_g {base : Nat} (hI : RInvs rt tms) (hPb : P < base) (hMb : M.blk < base) (hbw : base ≤ w.heap.size) (hn : rt.length ≤ 4000) (ho : ops.length ≤ 4000) (near : Bool) (t : RTok) (h0 : t.opn = 0) (hk : t.kind = 3) :
    BraH w P base M.blk s en tm tv bv ov (toksOf rt) tms.reverse ops.reverse (braceS t rt tms near ops).2.reverse (ba t.raw) near (braceS t rt tms near ops).1.opn := by
  intro W M' b hM' hsz hS hR
  have hbW : base ≤ W.heap.size := Nat.le_trans hbw hsz
  have hMb' : M'.blk < base := by rw [hM']; exact hMb
  unfold braceS
  by_cases h1 : isSg t [123] = true
  · rw [if_pos h1]
    have hr : t.raw = [123] := by unfold isSg at h1; simp at h1; exact h1.2
    have hlen : tms.reverse.length = (toksOf rt).length := by rw [toksOf_len, List.length_reverse, hI.len]
    refine (brace_open hS hR hPb hMb' hbW hlen (by rw [toksOf_len]; omega) (by rw [List.length_reverse]; omega) (tms.headD false) (last_rev tms) near (ba t.raw) (by rw [ba_data, hr])).mono ?_
    rintro e w2 ⟨rfl, hf, hkp, ov', hS', hR'⟩
    rw [open_eq hI] at hR' ⊢
    refine ⟨rfl, hf, fun i gc hi hne _ => hkp i gc hi hne, ov', hS', ?_⟩
    simpa using hR'
  · rw [if_neg h1]
    by_cases h2 : isSg t [125] = true
    · rw [if_pos h2]
      have hr : t.raw = [125] := by unfold isSg at h2; simp at h2; exact h2.2
      cases ops with
      | nil =>
        refine (brace_close (ba t.raw) (by rw [ba_data, hr]) near 1 _ (closed_none hS hR.o)).mono ?_
        rintro e w2 ⟨rfl, g⟩
        exact ⟨rfl, Fr.of_but (But.of_gr g) hbW, keep_of_gr g, ov, hS.gr g, hR.gr g⟩
      | cons x tl =>
        have hR' : Rows3 W base tv bv ov (toksOf rt) tms.reverse (tl.reverse ++ [x]) := by simpa using hR
        refine (brace_close (ba t.raw) (by rw [ba_data, hr]) near x _ (closed_some hS hR'.o hPb (by simp at ho ⊢; omega))).mono ?_
        rintro e w2 ⟨rfl, hb, ov', hS', hO'⟩
        exact ⟨rfl, Fr.of_but hb hbW, keep_of_but hb, ov', hS', ⟨own_but hR.t hb hPb, own_but hR.b hb hPb, hO'⟩⟩
    · rw [if_neg h2]
      have e1 : (ba t.raw).data.toList ≠ [123] := by rw [ba_data]; intro e; exact h1 (by unfold isSg; simp [hk, e])
      have e2 : (ba t.raw).data.toList ≠ [125] := by rw [ba_data]; intro e; exact h2 (by unfold isSg; simp [hk, e])
      refine (brace_no (ba t.raw) near e1 e2 W).mono ?_
      rintro e w2 ⟨rfl, rfl⟩
      rw [h0]
      exact ⟨rfl, Fr.refl _ _ _, fun i gc hi _ _ => hi, ov, hS, hR⟩
/-- what reading a token leaves -/
def ReadP (s : ByteArray) (P base : Nat) (M : GoMap) (en : Nat) (tm : Bool) (rt : List RTok) (tms : List Bool) (ops : List Nat) (a : Nat) (w : World) (X : Option (RTok × Src)) (e : Ending) (w' : World) : Prop :=
  match X with
  | none => Bad s e ∧ Bt P M.blk w w'
  | some r => e = .returned (.tuple #[]) ∧ ∃ M' b tv' bv' ov', Sc w' P M' s b b (behindB (braceS r.1 rt tms (decide (a = en)) ops).1.kind r.1.raw (braceS r.1 rt tms (decide (a = en)) ops).1.opn tm) tv' bv' ov' ∧
      Rows3 w' base tv' bv' ov' (toksOf ((braceS r.1 rt tms (decide (a = en)) ops).1 :: rt)) (tm :: tms).reverse (braceS r.1 rt tms (decide (a = en)) ops).2.reverse ∧ Fr2 P M.blk base w w' ∧ M'.blk = M.blk ∧ Behind s.data.toList M a r.2 M' b
theorem read_g {base : Nat} (h : Sc w P M s at_ en tm tv bv ov) (hR : Rows3 w base tv bv ov (toksOf rt) tms.reverse ops.reverse) (hI : RInvs rt tms) (hPb : P < base) (hMb : M.blk < base) (hbw : base ≤ w.heap.size) (hn : rt.length ≤ 4000) (ho : ops.length ≤ 4000)
    (hs : s.size ≤ 4000) (hJ : JOk s.data.toList M.J) (hPa : JPast s.data.toList M.J at_) (hat : at_ < s.size) (hMn : M.n ≤ 4000) (hFA : ∀ W, Bt P M.blk w W → FieldsAt W) :
    Calls Tryd.prog 23 #[.pointer (some ⟨P, 0, none⟩)] w (ReadP s P base M en tm rt tms ops at_ w (nextS false (rest s.data.toList M.J at_) tm)) := by
  have HT : ∀ W, Gr w W → Calls Tryd.prog 34 #[.pointer (some ⟨P, 0, none⟩)] W (TokP s P M en tm tv bv ov at_ W (nextS false (rest s.data.toList M.J at_) tm)) :=
    fun W g => token_g (h.gr g) hs hJ hPa hat hMn (fun W' hb => hFA W' ((Bt.of_gr g).trans hb))
  have hL : at_ < s.data.toList.length := by rw [sizeL]; exact hat
  have hlen : (toksOf rt).length ≤ 4000 ∧ tms.reverse.length ≤ 4000 := by rw [toksOf_len, List.length_reverse, ← hI.len]; exact ⟨hn, hn⟩
  cases hx : nextS false (rest s.data.toList M.J at_) tm with
  | none =>
    rw [hx] at HT
    exact read_bad h HT
  | some r =>
    obtain ⟨t, R2⟩ := r
    rw [hx] at HT
    have hN := next_inv hx
    have hpl : place (rest s.data.toList M.J at_) = at_ := rest_place hJ hL
    obtain ⟨hB1, hB2, hB3⟩ := brace_inv hN rt tms (decide (at_ = en)) ops
    have hTH : TokH w P M s en tm tv bv ov t.kind (ba (textP t)) (ba (replP t)) (ba t.more) (fun M' b => Behind s.data.toList M at_ R2 M' b) := fun W g => (HT W g).mono fun e w' ⟨M', b, h1, h2, h3, h4, h5⟩ => ⟨M', b, h1, h2, h3, h4, h5⟩
    show Calls _ _ _ _ fun e w' => _ ∧ _
    simp only
    rw [toksOf_cons, hB3, hpl, List.reverse_cons, hB2]
    by_cases hk : t.kind = 3
    · have htx : textP t = t.raw := by unfold textP; rw [if_pos (hN.form (.inl hk))]
      have e3 : ((t.kind : Nat) : Int) = 3 := by rw [hk]; rfl
      rw [e3] at hTH
      have hbr := brace_g (s := s) (en := en) (tm := tm) (tv := tv) (bv := bv) (ov := ov) hI hPb hMb hbw hn ho (decide (at_ = en)) t hN.opn hk
      rw [← htx] at hbr
      refine (read_s h hR hPb hMb hbw hTH hlen _ hbr).mono ?_
      rintro e w2 ⟨h1, M', b, tv', bv', ov', h2, h3, h4, h5, h6⟩
      rw [ba_data, htx] at h2
      refine ⟨h1, M', b, tv', bv', ov', by rw [e3]; exact h2, ?_, h4, h5, h6⟩
      have : ({ rend0 t with place := (at_ : Int), opn := ((braceS t rt tms (decide (at_ = en)) ops).1.opn : Int) } : Tok) = ⟨3, at_, ba (textP t), ba (replP t), ba t.more, ((braceS t rt tms (decide (at_ = en)) ops).1.opn : Int)⟩ := by
        rw [← e3]; rfl
      rw [this]; exact h3
    · have hk' : ((t.kind : Nat) : Int) ≠ 3 := by omega
      have e0 : braceS t rt tms (decide (at_ = en)) ops = (t, ops) := by
        have : ∀ l, isSg t l = false := fun l => by simp [isSg, hk]
        unfold braceS
        rw [this, this]; rfl
      refine (read_n h hR hPb hMb hbw hTH hlen hk').mono ?_
      rintro e w2 ⟨h1, M', b, tv', bv', ov', h2, h3, h4, h5, h6⟩
      rw [ba_data, behind_text hN] at h2
      rw [e0]
      simp only
      rw [hN.opn]
      refine ⟨h1, M', b, tv', bv', ov', h2, ?_, h4, h5, h6⟩
      exact h3
end Go.Proofs.YthmopindibdhnaaDoor.G
namespace Go.Proofs.YthmopindibdhnaaDoor.G
open Go.RowKit Go.Shelf Go.Maps
theorem assert_some (q : Int) (w : World) : (Instr.typeAssert (.iface 59 (.int .i64 q)) 20 59 true).run Tryd.prog w = .ok (.tuple #[.int .i64 q, .bool true]) w := by kernel_rfl
set_option maxRecDepth 10000 in
theorem catch_panicking (p : Addr) (x q : Int) (older : List PanicEntry) (w : World) (hc : w.cell? p = some (.int .i64 x)) (hz : w.frozen? p = false) :
    CallsD Tryd.prog 21 #[.pointer (some p)] (.panicking ({ v := .iface 59 (.int .i64 q), recovered := false } :: older)) w fun e u' w' =>
      e = .returned (.tuple #[]) ∧ u' = .panicking ({ v := .iface 59 (.int .i64 q), recovered := true } :: older) ∧ w' = w.setCell p (.int .i64 q) := by
  refine callsD_of_wpS Tryd.func21 rfl fun c₀ cs hu => ?_
  have hA : (#[Value.pointer (some p)] ++ Array.replicate (Tryd.f21.ntmps - (#[Value.pointer (some p)] : Array Value).size) undef) = #[Value.pointer (some p), undef, undef, undef, undef, undef, undef, undef, undef, undef] := by kernel_rfl
  rw [hA]
  clear hA
  apply wpS_seq
  apply wpS_region
  simp [wpOpsS, go_sem, recoverD, hu, assert_some, Exit.thenS]
  apply wpS_seq
  apply wpS_region
  simp [wpOpsS, go_sem, Exit.thenS]
  refine wpS_cond (t := true) (by simp [Act.eval]) ?_
  simp only [if_true]
  apply wpS_region
  simp [wpOpsS, go_sem, hc, hz, bodyPostS, results, Tryd.results21]
end Go.Proofs.YthmopindibdhnaaDoor.G
namespace Go.Proofs.YthmopindibdhnaaDoor.G
open Go.RowKit Go.Shelf Go.Maps
variable {w w' : World} {P : Nat} {M : GoMap} {s : ByteArray} {at_ en : Nat} {tm : Bool} {tv bv ov : Value} {rt : List RTok} {tms : List Bool} {ops : List Nat}
theorem skipS_le : ∀ (R : Src) (c : Bool), (skipS c R).length ≤ R.length
  | [], c => by cases c <;> simp [skipS]
  | x :: t, true => by
    rw [skipS]
    split
    · have := skipS_le t false; simp; omega
    · have := skipS_le t true; simp; omega
  | x :: t, false => by
    rw [skipS]
    split
    · have := skipS_le t false; simp; omega
    · split
      · have := skipS_le t true; simp; omega
      · exact Nat.le_refl _
theorem skipS_eq {R : Src} (h : (skipS false R).length = R.length) : skipS false R = R := by
  cases R with
  | nil => rfl
  | cons x t =>
    rw [skipS] at h ⊢
    split
    · rename_i hc
      rw [if_pos hc] at h
      have := skipS_le t false; simp at h; omega
    · rename_i hc
      rw [if_neg hc] at h
      split
      · rename_i hd
        rw [if_pos hd] at h
        have := skipS_le t true; simp at h; omega
      · rfl
theorem near_len {l : List UInt8} {J : Nat → Option Nat} (hJ : JOk l J) {a b : Nat} (hab : a ≤ b) (hb : b < l.length) (h : rest l J b = skipS false (rest l J a)) : decide ((skipS false (rest l J a)).length = (rest l J a).length) = decide (b = a) := by
  by_cases e : b = a
  · subst e
    rw [← h]; simp
  · have : ¬ (skipS false (rest l J a)).length = (rest l J a).length := fun e2 => by
      have e3 := skipS_eq e2
      rw [← h] at e3
      have p1 := rest_place hJ hb
      rw [e3, rest_place hJ (by omega)] at p1
      exact e p1.symm
    simp [e, this]
theorem braceS_len (t : RTok) (rt : List RTok) (tms : List Bool) (near : Bool) (ops : List Nat) : (braceS t rt tms near ops).2.length ≤ ops.length + 1 := by
  unfold braceS
  split
  · simp
  · split
    · simp; omega
    · simp
/-- between two tokens -/
structure AtTok (s : ByteArray) (P Mb base : Nat) (X : Option (List RTok × List Bool)) (W1 wr : World) (M : GoMap) (a : Nat) (t : Bool) (tv bv ov : Value) (rt : List RTok) (tms : List Bool) (ops : List Nat) (f : Nat) : Prop where
  mb : M.blk = Mb
  sc : Sc wr P M s a a t tv bv ov
  rows : Rows3 wr base tv bv ov (toksOf rt) tms.reverse ops.reverse
  inv : RInvs rt tms
  jok : JOk s.data.toList M.J
  past : JPast s.data.toList M.J a
  mn : M.n ≤ a
  rl : rt.length ≤ a
  ol : ops.length ≤ a
  al : a ≤ s.data.toList.length
  fuel : s.data.toList.length < f + a
  eqn : scanS false f (rest s.data.toList M.J a) t rt tms ops = X
  fr : Fr2 P Mb base W1 wr
theorem Fr2.but {Mb base : Nat} {a b c : World} (h : Fr2 P Mb base a b) (k : But P b c) (hb : base ≤ b.heap.size) : Fr2 P Mb base a c := h.fr (Fr.of_but k hb)
theorem Fr2.trans {Mb base : Nat} {a b c : World} (h : Fr2 P Mb base a b) (k : Fr2 P Mb base b c) : Fr2 P Mb base a c :=
  ⟨k.os.trans h.os, k.tape.trans h.tape, k.output.trans h.output, Nat.le_trans h.size k.size, fun i h1 h2 h3 => (k.block i h1 h2 h3).trans (h.block i h1 h2 h3)⟩
theorem Fr2.refl (P Mb base : Nat) (w : World) : Fr2 P Mb base w w := ⟨rfl, rfl, rfl, Nat.le_refl _, fun _ _ _ _ => rfl⟩
/-- nothing more -/
theorem AtTok.done {Mb base : Nat} {X : Option (List RTok × List Bool)} {W1 wr : World} {t : Bool} {f : Nat} (h : AtTok s P Mb base X W1 wr M at_ t tv bv ov rt tms ops f) (hk : skipS false (rest s.data.toList M.J at_) = []) : X = some (rt, tms) := by
  have hf := h.fuel
  have ha := h.al
  cases f with
  | zero => omega
  | succ f =>
    have := h.eqn
    rw [scanS, if_pos hk] at this
    exact this.symm
theorem AtTok.bad {Mb base : Nat} {X : Option (List RTok × List Bool)} {W1 wr : World} {t : Bool} {f b : Nat} (h : AtTok s P Mb base X W1 wr M at_ t tv bv ov rt tms ops f) (hb : b < s.data.toList.length) (hk : rest s.data.toList M.J b = skipS false (rest s.data.toList M.J at_))
    (hx : nextS false (rest s.data.toList M.J b) t = none) : X = none := by
  have hf := h.fuel
  have ha := h.al
  cases f with
  | zero => omega
  | succ f =>
    have := h.eqn
    rw [scanS, ← hk, if_neg (rest_ne h.jok hb), hx] at this
    exact this.symm
/-- one more -/
theorem AtTok.next {Mb base : Nat} {X : Option (List RTok × List Bool)} {W1 wr w2 w3 : World} {t : Bool} {f b : Nat} {x : RTok} {R2 : Src} (h : AtTok s P Mb base X W1 wr M at_ t tv bv ov rt tms ops f) (hab : at_ ≤ b) (hb : b < s.data.toList.length) (hk : rest s.data.toList M.J b = skipS false (rest s.data.toList M.J at_))
    (hx : nextS false (rest s.data.toList M.J b) t = some (x, R2)) (hF : Fr2 P Mb base W1 w2) {M' : GoMap} {b' : Nat} {tv' bv' ov' : Value}
    (h1 : Sc w3 P M' s b' b' (behindB (braceS x rt tms (decide (b = at_)) ops).1.kind x.raw (braceS x rt tms (decide (b = at_)) ops).1.opn t) tv' bv' ov')
    (h2 : Rows3 w3 base tv' bv' ov' (toksOf ((braceS x rt tms (decide (b = at_)) ops).1 :: rt)) (t :: tms).reverse (braceS x rt tms (decide (b = at_)) ops).2.reverse) (h3 : Fr2 P M.blk base w2 w3) (h4 : M'.blk = M.blk) (h5 : Behind s.data.toList M b R2 M' b') :
    ∃ t' rt' tms' ops' f', AtTok s P Mb base X W1 w3 M' b' t' tv' bv' ov' rt' tms' ops' f' := by
  have hf := h.fuel
  have ha := h.al
  obtain ⟨e1, e2, e3, e4, e5, e6⟩ := h5
  cases f with
  | zero => omega
  | succ f =>
    have heq := h.eqn
    rw [scanS, ← hk, if_neg (rest_ne h.jok hb), hx] at heq
    simp only at heq
    have hnl : decide ((rest s.data.toList M.J b).length = (rest s.data.toList M.J at_).length) = decide (b = at_) := by
      rw [hk]; exact near_len h.jok hab hb hk
    rw [hnl, e1] at heq
    have hN := next_inv hx
    obtain ⟨i1, _, _⟩ := brace_inv hN rt tms (decide (b = at_)) ops
    have l1 := braceS_len x rt tms (decide (b = at_)) ops
    have l2 := h.mn
    have l3 := h.rl
    have l4 := h.ol
    refine ⟨_, _, _, _, f, h4.trans h.mb, h1, h2, ⟨i1, h.inv⟩, e4, e5, by omega, by simp; omega, by omega, e3, by omega, heq, hF.trans (by rw [h.mb] at h3; exact h3)⟩
end Go.Proofs.YthmopindibdhnaaDoor.G
namespace Go.Proofs.YthmopindibdhnaaDoor.G
open Go.RowKit Go.Shelf Go.Maps
variable {w w' : World} {P : Nat} {M : GoMap} {s : ByteArray} {ov : Value}
/-- what all tokens leave -/
def RunP (s : ByteArray) (P Mb : Nat) (w : World) (X : Option (List RTok × List Bool)) (e : Ending) (w' : World) : Prop :=
  match X with
  | none => (∃ q : Nat, q < s.size ∧ e = .returned (.int .i64 q)) ∧ Fr2 P Mb w.heap.size w w'
  | some r => e = .returned (.int .i64 s.size) ∧ ∃ (M' : GoMap) (a en : Nat) (t : Bool) (tv bv ov : Value) (ops : List Nat), Sc w' P M' s a en t tv bv ov ∧ Rows3 w' (w.heap.size + 1) tv bv ov (toksOf r.1) r.2.reverse ops ∧ RInvs r.1 r.2 ∧ r.1.length ≤ s.size ∧ Fr2 P Mb w.heap.size w w'
theorem Rows3.nil (w : World) (base : Nat) : Rows3 w base (.slice none 0 0) (.slice none 0 0) (.slice none 0 0) [] [] [] := ⟨⟨by simp [cellsT], .inl ⟨rfl, rfl⟩⟩, ⟨by simp, .inl ⟨rfl, rfl⟩⟩, ⟨by simp, .inl ⟨rfl, rfl⟩⟩⟩
theorem Fr2.cell {Mb base g : Nat} {a b : World} (h : Fr2 P Mb (base + 1) a b) (v : Value) (hg : g = base) : Fr2 P Mb base a (b.setCell ⟨g, 0, none⟩ v) :=
  ⟨h.os, h.tape, h.output, by simp [World.setCell]; exact h.size, fun i h1 h2 h3 => by
    have e := h.block i (by omega) h2 h3
    have : g ≠ i := by omega
    simp [World.setCell, Array.getElem?_modify, this]; exact e⟩
theorem Rows3.cell {base g : Nat} {tv bv : Value} {toks : List Tok} {terms : List Bool} {ops : List Nat} (h : Rows3 w base tv bv ov toks terms ops) (v : Value) (hg : g < base) : Rows3 (w.setCell ⟨g, 0, none⟩ v) base tv bv ov toks terms ops :=
  ⟨own_set h.t (fun e => own_apart h.t (.inl hg) e.symm) 0 v, own_set h.b (fun e => own_apart h.b (.inl hg) e.symm) 0 v, own_set h.o (fun e => own_apart h.o (.inl hg) e.symm) 0 v⟩
set_option maxRecDepth 100000 in
set_option maxHeartbeats 2000000 in
theorem run_g (h : Sc w P M s 0 0 true (.slice none 0 0) (.slice none 0 0) (.slice none 0 0)) (hs : s.size ≤ 4000) (hJ : JOk s.data.toList M.J) (hPa : JPast s.data.toList M.J 0) (hMn : M.n = 0) (hFA : ∀ W, Fr2 P M.blk w.heap.size w W → FieldsAt W) :
    Calls Tryd.prog 12 #[.pointer (some ⟨P, 0, none⟩)] w (RunP s P M.blk w (scanS false (s.data.toList.length + 1) (rest s.data.toList M.J 0) true [] [] [])) := by
  have H := Lib.hid h
  obtain ⟨X, hX⟩ : ∃ X, X = scanS false (s.data.toList.length + 1) (rest s.data.toList M.J 0) true [] [] [] := ⟨_, rfl⟩
  have HX := Lib.hid hX.symm
  rw [← hX]
  clear hX
  have HFA := Lib.hid hFA
  have HJ := Lib.hid hJ
  have HPa := Lib.hid hPa
  have HMn := Lib.hid hMn
  have Hs := Lib.hid hs
  have hmf : ∀ (fn : Fn) (first cap : Array Value) (w : World), (Instr.makeFunc fn first cap).run Tryd.prog w = .ok (.func fn first cap) w := fun _ _ _ _ => rfl
  obtain ⟨c0, c1, c2, c3, c4, c5, c6, c7, cf⟩ := (h.gr ((Gr.refl w).alloc (.cells #[.int .i64 0] 3))).cells
  have hP := h.lt.1
  have hM := h.lt.2
  have hs' : s.size ≤ 140737488351232 := by omega
  clear h hFA hJ hPa hMn hs
  go_enter_defers Tryd.func12, Tryd.ntmps12
  go_wp2_with fail
  generalize hW : w.alloc (.cells #[.int .i64 (s.size : Int)] 3) = W1 at *
  have S1 := Lib.hid (by rw [← hW]; exact H.out.gr ((Gr.refl w).alloc _) : Sc W1 P M s 0 0 true (.slice none 0 0) (.slice none 0 0) (.slice none 0 0))
  have R1 := Lib.hid (by rw [← hW]; exact heap_alloc_new w _ : W1.heap[w.heap.size]? = some (.cells #[.int .i64 (s.size : Int)] 3 (0, 0)))
  have F1 := Lib.hid (by rw [← hW]; exact (Fr2.refl P M.blk w.heap.size w).but (But.of_gr ((Gr.refl w).alloc _)) (Nat.le_refl _) : Fr2 P M.blk w.heap.size w W1)
  have Z1 := Lib.hid (by rw [← hW]; simp : W1.heap.size = w.heap.size + 1)
  clear hW c0 c1 c2 c3 c4 c5 c6 c7 cf
  go_loopw [] (fun wr => ∃ (M' : GoMap) (a : Nat) (t : Bool) (tv bv ov : Value) (rt : List RTok) (tms : List Bool) (ops : List Nat) (f : Nat), Hid (AtTok s P M.blk (w.heap.size + 1) X W1 wr M' a t tv bv ov rt tms ops f)) (fun wr => atLeft s.size P wr)
  case atStart =>
    exact ⟨M, 0, true, _, _, _, [], [], [], _, Lib.hid ⟨rfl, S1.out, Rows3.nil _ _, trivial, HJ.out, HPa.out, by rw [HMn.out]; exact Nat.le_refl _, Nat.le_refl _, Nat.le_refl _, Nat.zero_le _, by omega, HX.out, Fr2.refl _ _ _ _⟩⟩
  case round =>
    obtain ⟨M', a, t, tv, bv, ov, rt, tms, ops, f, A⟩ := hrel
    have hPs : P < w.heap.size + 1 := by omega
    have hMs : M'.blk < w.heap.size + 1 := by have := A.out.mb; omega
    have hq : w.heap.size + 1 ≤ wr.heap.size := by have := A.out.fr.size; have := Z1.out; omega
    have hal : a ≤ s.size := by have := A.out.al; rw [sizeL] at this; exact this
    have HSK := Lib.hid (skip_m A.out.sc hs' hal A.out.jok)
    go_wp2_with fail
    refine (HSK.out).mono ?_
    rintro e w2 ⟨b, rfl, hS2, hb2, hab, hbl, hrest⟩
    have S2 := Lib.hid hS2
    have R2 := Lib.hid (A.out.rows.but hb2 hPs)
    have F2 := Lib.hid (A.out.fr.but hb2 hq)
    have hq2 : w.heap.size + 1 ≤ w2.heap.size := by have := hb2.size; omega
    have Hrest := Lib.hid hrest
    have Hab := Lib.hid hab
    clear hS2 hb2 HSK hrest hab hal
    have hne : w.heap.size ≠ P := by omega
    have hne2 : w.heap.size ≠ M.blk := by omega
    by_cases hbL : b < s.data.toList.length
    · have HbL := Lib.hid hbL
      rw [decide_eq_true hbL]
      have HFA2 : ∀ W, Bt P M'.blk w2 W → FieldsAt W := fun W hb => HFA.out W ((F1.out.trans ⟨F2.out.os, F2.out.tape, F2.out.output, F2.out.size, fun i h1 h2 h3 => F2.out.block i (by omega) h2 h3⟩).trans (Fr2.of_bt (by rw [← A.out.mb]; exact hb) (by omega)))
      have HRd := read_g S2.out R2.out A.out.inv hPs hMs hq2 (by have := A.out.rl; have := A.out.al; have := Hs.out; have := sizeL s; omega) (by have := A.out.ol; have := A.out.al; have := Hs.out; have := sizeL s; omega) Hs.out A.out.jok (A.out.past.mono Hab.out) (by rw [sizeL] at hbL; exact hbL) (by have := A.out.mn; have := A.out.al; have := Hs.out; have := sizeL s; omega) HFA2
      clear HFA2 hbL
      cases hx : nextS false (rest s.data.toList M'.J b) t with
      | none =>
        rw [hx] at HRd
        have HR := Lib.hid HRd
        have hXn := A.out.bad HbL.out Hrest.out hx
        subst hXn
        clear HRd hx
        go_wp2_with fail
        refine (HR.out).mono ?_
        rintro e w3 ⟨⟨q, hqs, rfl⟩, hb3⟩
        have F3 := Lib.hid (F2.out.trans (Fr2.of_bt (by rw [← A.out.mb]; exact hb3) hq2))
        have hR3 : w3.heap[w.heap.size]? = some (.cells #[.int .i64 (s.size : Int)] 3 (0, 0)) := by
          rw [F3.out.block _ (Nat.lt_succ_self _) hne hne2]; exact R1.out
        clear hb3
        go_wp2_with fail
        refine leaves_cons (f := 21) (args := #[.pointer (some ⟨w.heap.size, 0, none⟩)]) (by simp) (by simp [go_sem]) ?_
        refine (catch_panicking ⟨w.heap.size, 0, none⟩ s.size q [] _ (by simp [World.cell?, hR3]) (by simp [World.frozen?, hR3])).mono ?_
        rintro e u' w'' ⟨rfl, rfl, rfl⟩
        have kc3 : (w3.setCell ⟨w.heap.size, 0, none⟩ (.int .i64 (q : Int))).cell? ⟨w.heap.size, 0, none⟩ = some (.int .i64 (q : Int)) := by
          simp [World.cell?, World.setCell, Array.getElem?_modify, hR3]
        exact ⟨.int .i64 (q : Int), by simp [results, Tryd.results12, go_sem, kc3], ⟨q, hqs, rfl⟩, F1.out.trans (F3.out.cell _ rfl)⟩
      | some r =>
        obtain ⟨x, Rx⟩ := r
        rw [hx] at HRd
        have HR := Lib.hid HRd
        have Hx := Lib.hid hx
        clear HRd hx
        go_wp2_with fail
        refine (HR.out).mono ?_
        rintro e w3 ⟨rfl, M3, b3, tv3, bv3, ov3, h1, h2, h3, h4, h5⟩
        have hb3 : b < b3 := h5.2.1
        obtain ⟨t', rt', tms', ops', f', A'⟩ := A.out.next Hab.out HbL.out Hrest.out Hx.out F2.out h1 h2 h3 h4 h5
        have AN := Lib.hid A'
        clear h1 h2 h3 h4 h5 A'
        go_wp2_with fail
        go_roundw
        case rel => exact ⟨_, _, _, _, _, _, _, _, _, _, AN⟩
        case measure =>
          rw [A.out.sc.left, AN.out.sc.left]
          have := Hab.out
          have := HbL.out
          rw [sizeL] at this
          omega
    · have hbe : s.data.toList.length ≤ b := by omega
      rw [decide_eq_false hbL]
      have hXs := A.out.done (by rw [← Hrest.out]; exact rest_nil hbe)
      subst hXs
      have hR2 : w2.heap[w.heap.size]? = some (.cells #[.int .i64 (s.size : Int)] 3 (0, 0)) := by
        rw [F2.out.block _ (Nat.lt_succ_self _) hne hne2]; exact R1.out
      obtain ⟨kc, kf⟩ := cellsOf hR2
      have k0 := kc 0
      simp at k0
      have kf0 := kf 0
      have HR2 := Lib.hid hR2
      clear kc kf hR2 hbL hbe
      go_wp2_with fail
      refine leaves_cons (f := 21) (args := #[.pointer (some ⟨w.heap.size, 0, none⟩)]) (by simp) (by simp [go_sem]) ?_
      refine (catch_idle ⟨w.heap.size, 0, none⟩ _).mono ?_
      rintro e u' w'' ⟨rfl, rfl, rfl⟩
      have kc2 : (w2.setCell ⟨w.heap.size, 0, none⟩ (.int .i64 (s.size : Int))).cell? ⟨w.heap.size, 0, none⟩ = some (.int .i64 (s.size : Int)) := by
        have e := HR2.out
        simp [World.cell?, World.setCell, Array.getElem?_modify, e]
      refine ⟨.int .i64 (s.size : Int), by simp [results, Tryd.results12, go_sem, kc2], rfl, ?_⟩
      have hne3 : w.heap.size ≠ M'.blk := by rw [A.out.mb]; exact hne2
      exact ⟨M', b, a, t, tv, bv, ov, ops.reverse, S2.out.other hne hne3, R2.out.cell _ (Nat.lt_succ_self _), A.out.inv, by have := A.out.rl; have := A.out.al; have := sizeL s; simp only; omega, F1.out.trans (F2.out.cell _ rfl)⟩
end Go.Proofs.YthmopindibdhnaaDoor.G
namespace Go.Proofs.YthmopindibdhnaaDoor.G
open Go.RowKit Go.Shelf Go.Maps
def ownC (c : UInt8) : Bool := ownB (c.toNat : Int)
def forN : List UInt8 → Nat
  | [] => 0
  | c :: t => if ownC c = true then forN t + 1 else 0
theorem forN_le : ∀ l, forN l ≤ l.length
  | [] => Nat.le_refl _
  | c :: t => by
    rw [forN]; split
    · have := forN_le t; simp; omega
    · exact Nat.zero_le _
theorem forN_at : ∀ (l : List UInt8) (i : Nat) (h : i < l.length), (∀ j (_ : j < i) (h : j < l.length), ownC l[j] = true) → ownC l[i] = false → forN l = i
  | [], i, h, _, _ => absurd h (Nat.not_lt_zero _)
  | c :: t, 0, _, _, h0 => by
    have : ownC c = false := h0
    rw [forN, if_neg (by rw [this]; decide)]
  | c :: t, i + 1, h, ha, h0 => by
    have hc : ownC c = true := ha 0 (by omega) (by simp)
    rw [forN, if_pos hc, forN_at t i (by simp at h; omega) (fun j hj hl => ha (j + 1) (by omega) (by simp; omega)) h0]
theorem forN_all : ∀ (l : List UInt8), (∀ j (h : j < l.length), ownC l[j] = true) → forN l = l.length
  | [], _ => rfl
  | c :: t, ha => by
    have hc : ownC c = true := ha 0 (by simp)
    rw [forN, if_pos hc, forN_all t (fun j hl => ha (j + 1) (by simp; omega))]
    rfl
set_option maxRecDepth 100000 in
set_option maxHeartbeats 1000000 in
theorem foreign_g (s : ByteArray) (hs : s.size ≤ 140737488351232) (w : World) :
    Calls Tryd.prog 13 #[.string s] w fun e w' => e = .returned (.int .i64 (forN s.data.toList : Nat)) ∧ Gr w w' := by
  obtain ⟨l, hl⟩ : ∃ l, l = s.data.toList := ⟨_, rfl⟩
  have hsz : s.size = l.length := by rw [hl, ← sizeL]
  have HB := Lib.hid (fun n (h : n < s.size) (h' : n < l.length) => (show s[n] = l[n] by subst hl; exact byteE s n h h'))
  have Hsz := Lib.hid hsz
  rw [← hl]
  obtain ⟨R, hR⟩ : ∃ R, R = forN l := ⟨_, rfl⟩
  have HR := Lib.hid hR
  rw [← hR]
  clear hl hsz hR
  go_enter Tryd.func13, Tryd.ntmps13
  go_wp2_with fail
  go_loopw [3, 4, 7] (fun _ _ iv wr => ∃ i : Nat, iv = .int .i64 (i : Int) ∧ i ≤ s.size ∧ Hid (∀ j (_ : j < i) (h : j < l.length), ownC l[j] = true) ∧ Gr w wr) (fun _ _ iv _ => leftTo s.size iv)
  case atStart => exact ⟨0, rfl, Nat.zero_le _, Lib.hid (fun j hj => absurd hj (Nat.not_lt_zero _)), Gr.refl w⟩
  case round =>
    obtain ⟨i, rfl, hi, HA, hg⟩ := hrel
    have Hg := Lib.hid hg
    clear hg
    by_cases hc : i < s.size
    · have hci : (i : Int) < (s.size : Int) := by omega
      have hL : i < l.length := by rw [← Hsz.out]; exact hc
      have ex := HB.out i hc hL
      have HN : Hid (ownC l[i] = true → ∀ j (_ : j < i + 1) (h : j < l.length), ownC l[j] = true) := Lib.hid (fun ho j hj hjl => by
        by_cases e : j = i
        · subst e; exact ho
        · exact HA.out j (by omega) hjl)
      have HF : Hid (ownC l[i] = false → R = i) := Lib.hid (fun ho => by rw [HR.out]; exact forN_at l i hL HA.out ho)
      generalize l[i] = x at *
      clear HB hL HA HR
      have hx : ((x.toNat : Int) = 9 ∨ (x.toNat : Int) = 10 ∨ ((x.toNat : Int) ≠ 9 ∧ (x.toNat : Int) ≠ 10 ∧ 32 ≤ (x.toNat : Int) ∧ (x.toNat : Int) ≤ 126)) ∧ ownC x = true ∨ ((x.toNat : Int) ≠ 9 ∧ (x.toNat : Int) ≠ 10 ∧ ((x.toNat : Int) < 32 ∨ (32 ≤ (x.toNat : Int) ∧ 126 < (x.toNat : Int)))) ∧ ownC x = false := by
        cases ho : ownC x with
        | true =>
          refine .inl ⟨?_, rfl⟩
          simp only [ownC, ownB, Bool.or_eq_true, Bool.and_eq_true, beq_iff_eq, decide_eq_true_eq] at ho
          omega
        | false =>
          refine .inr ⟨?_, rfl⟩
          have h1 : ¬ ownC x = true := by rw [ho]; decide
          simp only [ownC, ownB, Bool.or_eq_true, Bool.and_eq_true, beq_iff_eq, decide_eq_true_eq] at h1
          omega
      have hi1 : (i : Int) + 1 ≤ 9223372036854775807 := by omega
      have hi2 : -9223372036854775808 ≤ (i : Int) + 1 := by omega
      rcases hx with ⟨hx | hx | ⟨h1, h2, h3, h4⟩, ho⟩ | ⟨⟨h1, h2, h3 | ⟨h3, h4⟩⟩, ho⟩
      · have HN2 := Lib.hid (HN.out ho)
        have t1 : ((x.toNat : Int) != 9) = false := by simp [hx]
        clear hx ho HN HF
        go_wp2_with fail
        go_roundw
        case rel => exact ⟨i + 1, rfl, hc, HN2, Hg.out⟩
        case measure => simp only [leftTo]; omega
      · have HN2 := Lib.hid (HN.out ho)
        have t1 : ((x.toNat : Int) != 9) = true := by simp [hx]
        have t2 : ((x.toNat : Int) != 10) = false := by simp [hx]
        clear hx ho HN HF
        go_wp2_with fail
        go_roundw
        case rel => exact ⟨i + 1, rfl, hc, HN2, Hg.out⟩
        case measure => simp only [leftTo]; omega
      · have HN2 := Lib.hid (HN.out ho)
        have t1 : ((x.toNat : Int) != 9) = true := by simpa using h1
        have t2 : ((x.toNat : Int) != 10) = true := by simpa using h2
        have t3 : ¬ (x.toNat : Int) < 32 := by omega
        have t4 : ¬ 126 < (x.toNat : Int) := by omega
        clear h1 h2 h3 h4 ho HN HF
        go_wp2_with fail
        go_roundw
        case rel => exact ⟨i + 1, rfl, hc, HN2, Hg.out⟩
        case measure => simp only [leftTo]; omega
      · have HR2 := Lib.hid (HF.out ho)
        have t1 : ((x.toNat : Int) != 9) = true := by simpa using h1
        have t2 : ((x.toNat : Int) != 10) = true := by simpa using h2
        clear h1 h2 ho HN HF
        go_wp2_with fail
        go_ret
        exact ⟨by rw [HR2.out]; rfl, Hg.out⟩
      · have HR2 := Lib.hid (HF.out ho)
        have t1 : ((x.toNat : Int) != 9) = true := by simpa using h1
        have t2 : ((x.toNat : Int) != 10) = true := by simpa using h2
        have t3 : ¬ (x.toNat : Int) < 32 := by omega
        clear h1 h2 h3 ho HN HF
        go_wp2_with fail
        go_ret
        exact ⟨by rw [HR2.out]; rfl, Hg.out⟩
    · have hci : decide ((i : Int) < (s.size : Int)) = false := by simp; omega
      have hci' : decide (i < s.size) = false := by simp; omega
      have HE : Hid (R = s.size) := Lib.hid (by rw [HR.out, Hsz.out]; exact forN_all l (fun j h => HA.out j (by have := Hsz.out; omega) h))
      clear HB hc HA HR
      go_wp2_with fail
      go_ret
      exact ⟨by rw [HE.out]; rfl, Hg.out⟩
end Go.Proofs.YthmopindibdhnaaDoor.G
namespace Go.Proofs.YthmopindibdhnaaDoor.G
open Go.RowKit Go.Shelf Go.Maps
variable {w w' : World} {P : Nat} {M : GoMap} {s : ByteArray} {at_ en : Nat} {tm : Bool} {tv bv ov : Value} {toks : List Tok} {terms : List Bool} {ops : List Nat}
def srcOf (l : List UInt8) : Src := rest l (fun _ => none) 0
def lexY (n fn : Nat) : Option (List RTok × List Bool) → Except Nat (List RTok × List Bool)
  | none => .error 2
  | some r => if fn < n then .error 2 else if 1000 < r.1.length then .error 3 else .ok r
theorem lexY_some (n fn : Nat) (r : List RTok × List Bool) : lexY n fn (some r) = if fn < n then .error 2 else if 1000 < r.1.length then .error 3 else .ok r := rfl
/-- what a source is: its tokens and terms, the last one first; or an error -/
def lexO (ref : Bool) (l : List UInt8) : Except Nat (List RTok × List Bool) :=
  if 4000 < l.length then .error 3 else lexY l.length (forN l) (scanS ref (l.length + 1) (srcOf l) true [] [] [])
/-- what the scan of a source gives -/
def ScanP (s : ByteArray) (w : World) (X : Except Nat (List RTok × List Bool)) (e : Ending) (w' : World) : Prop :=
  match X with
  | .error n => (∃ p : Nat, p ≤ s.size ∧ e = .returned (.tuple #[.pointer none, .int .i64 p, .int .i64 (n : Int)])) ∧ Gr w w'
  | .ok r => ∃ (P : Nat) (M : GoMap) (a en : Nat) (t : Bool) (tv bv ov : Value) (ops : List Nat), e = .returned (.tuple #[.pointer (some ⟨P, 0, none⟩), .int .i64 0, .int .i64 0]) ∧ Sc w' P M s a en t tv bv ov ∧ Rows3 w' w.heap.size tv bv ov (toksOf r.1) r.2.reverse ops ∧ RInvs r.1 r.2 ∧ r.1.length ≤ 1000 ∧ Gr w w'
theorem own_mono {w : World} {b b2 : Nat} {e : TypeId} {size : Nat} {v : Value} {n : Nat} {xs : List Value} (h : w.ownsRow b e size v n xs) (hb : b2 ≤ b) : w.ownsRow b2 e size v n xs := by
  obtain ⟨a1, a2⟩ := h
  refine ⟨a1, ?_⟩
  rcases a2 with a2 | ⟨g, cap, cur, e1, e3, e4⟩
  · exact .inl a2
  · exact .inr ⟨g, cap, cur, e1, by omega, e4⟩
theorem Rows3.mono {b b2 : Nat} (h : Rows3 w b tv bv ov toks terms ops) (hb : b2 ≤ b) : Rows3 w b2 tv bv ov toks terms ops := ⟨own_mono h.t hb, own_mono h.b hb, own_mono h.o hb⟩
theorem jok_nil (l : List UInt8) : JOk l fun _ => none := ⟨fun _ _ h => (nomatch h), fun _ _ h => (nomatch h), fun _ _ h => (nomatch h)⟩
theorem jpast_nil (l : List UInt8) (a : Nat) : JPast l (fun _ => none) a := fun _ _ h => (nomatch h)
set_option maxRecDepth 100000 in
set_option maxHeartbeats 2000000 in
theorem scan_large (hs : 4000 < s.size) (w : World) : Calls Tryd.prog 9 #[.string s] w (ScanP s w (lexO false s.data.toList)) := by
  have hx : lexO false s.data.toList = .error 3 := by unfold lexO; rw [sizeL, if_pos hs]
  rw [hx]
  have hs1 : (s.size : Int) > 4000 := by omega
  clear hs hx
  go_enter Tryd.func9, Tryd.ntmps9
  go_wp2_with fail
  refine bodyPost_ret (v := .tuple #[.pointer none, .int .i64 0, .int .i64 3]) (by simp [results, Tryd.results9, go_sem]) rfl ?_
  exact ⟨⟨0, Nat.zero_le _, rfl⟩, Gr.refl w⟩
set_option maxRecDepth 100000 in
set_option maxHeartbeats 2000000 in
theorem scan_g (hs : s.size ≤ 4000) (w : World) (hFA : ∀ W, Gr w W → FieldsAt W) : Calls Tryd.prog 9 #[.string s] w (ScanP s w (lexO false s.data.toList)) := by
  have HF := Lib.hid (fun w => foreign_g s (by omega) w)
  have HFA := Lib.hid hFA
  obtain ⟨Y, hY⟩ : ∃ Y, Y = scanS false (s.data.toList.length + 1) (srcOf s.data.toList) true [] [] [] := ⟨_, rfl⟩
  have HY := Lib.hid hY
  have HX : Hid (lexO false s.data.toList = lexY s.size (forN s.data.toList) Y) := Lib.hid (by
      unfold lexO; rw [if_neg (by rw [sizeL]; omega), ← hY, sizeL])
  have Hfn := Lib.hid (show forN s.data.toList ≤ s.size by rw [← sizeL]; exact forN_le _)
  generalize lexO false s.data.toList = X at *
  generalize forN s.data.toList = fn at *
  have hs1 : (s.size : Int) ≤ 4000 := by omega
  clear hFA hY
  have hmm := @run_makeMap Tryd.prog
  go_enter Tryd.func9, Tryd.ntmps9
  go_wp2_with fail
  generalize hW : (w.alloc (.map #[] 0)).alloc (.cells #[.string s, .int .i64 0, .int .i64 0, .bool true, .slice none 0 0, .slice none 0 0, .slice none 0 0, .map (some w.heap.size)] 40) = W1 at *
  have S1 : Hid (Sc W1 (w.heap.size + 1) ⟨w.heap.size, 0, fun _ => none⟩ s 0 0 true (.slice none 0 0) (.slice none 0 0) (.slice none 0 0)) := Lib.hid (by
    rw [← hW]
    refine ⟨?_, ?_, by simp⟩
    · have := heap_alloc_new (w.alloc (.map #[] 0)) (.cells #[.string s, .int .i64 0, .int .i64 0, .bool true, .slice none 0 0, .slice none 0 0, .slice none 0 0, .map (some w.heap.size)] 40)
      simpa using this
    · exact (MapJ.new w).at (((Gr.refl (w.alloc (.map #[] 0))).alloc _).block _ (by simp)))
  have G1 : Hid (Gr w W1) := Lib.hid (by rw [← hW]; exact ((Gr.refl w).alloc _).alloc _)
  have Z1 : Hid (W1.heap.size = w.heap.size + 2) := Lib.hid (by rw [← hW]; simp)
  clear hW
  have HG : Hid (∀ W, Fr2 (w.heap.size + 1) w.heap.size W1.heap.size W1 W → Gr w W) := Lib.hid (fun W h => ⟨h.os.trans G1.out.os, h.tape.trans G1.out.tape, h.output.trans G1.out.output, Nat.le_trans G1.out.size h.size, fun k hk => (h.block k (by have := Z1.out; omega) (by omega) (by omega)).trans (G1.out.block k hk)⟩)
  have HRun := run_g S1.out hs (jok_nil _) (jpast_nil _ _) rfl (fun W h => HFA.out W (HG.out W h))
  rw [show rest s.data.toList (fun _ => none) 0 = srcOf s.data.toList from rfl, ← HY.out] at HRun
  cases Y with
  | none =>
    have HR := Lib.hid HRun
    have hx : X = .error 2 := HX.out
    subst hx
    clear HRun HX HY
    refine (HR.out).mono ?_
    rintro e w2 ⟨⟨q, hq, rfl⟩, hf2⟩
    have G2 := Lib.hid (HG.out w2 hf2)
    clear hf2
    go_wp2_with fail
    refine (HF.out _).mono ?_
    rintro e w3 ⟨rfl, g3⟩
    have G3 := Lib.hid (G2.out.trans g3)
    clear g3
    go_wp2_with fail
    refine bodyPost_ret (v := .tuple #[.pointer none, .int .i64 (min (q : Int) (fn : Int)), .int .i64 2]) (by simp [results, Tryd.results9, go_sem]) rfl ?_
    have hm : ((min q fn : Nat) : Int) = min (q : Int) (fn : Int) := by omega
    exact ⟨⟨min q fn, by omega, by rw [hm]; rfl⟩, G3.out⟩
  | some r =>
    have HR := Lib.hid HRun
    clear HRun HY
    by_cases hfn : fn < s.size
    · have hx : X = .error 2 := by rw [HX.out]; exact if_pos hfn
      subst hx
      clear HX
      refine (HR.out).mono ?_
      rintro e w2 ⟨rfl, M', a2, en2, t2, tv2, bv2, ov2, ops2, hS2, hR2, hI2, hl2, hf2⟩
      have G2 := Lib.hid (HG.out w2 (by exact hf2))
      clear hf2 hS2 hR2 hI2 hl2
      go_wp2_with fail
      refine (HF.out _).mono ?_
      rintro e w3 ⟨rfl, g3⟩
      have G3 := Lib.hid (G2.out.trans g3)
      clear g3
      go_wp2_with fail
      refine bodyPost_ret (v := .tuple #[.pointer none, .int .i64 (min (s.size : Int) (fn : Int)), .int .i64 2]) (by simp [results, Tryd.results9, go_sem]) rfl ?_
      have hm : ((min s.size fn : Nat) : Int) = min (s.size : Int) (fn : Int) := by omega
      exact ⟨⟨min s.size fn, by omega, by rw [hm]; rfl⟩, G3.out⟩
    · have hfe : fn = s.size := by have := Hfn.out; omega
      subst hfe
      have hmn : min (s.size : Int) (s.size : Int) = (s.size : Int) := by omega
      by_cases hn : 1000 < r.1.length
      · have hx : X = .error 3 := by rw [HX.out]; rw [lexY_some, if_neg hfn, if_pos hn]
        subst hx
        have Hn := Lib.hid hn
        clear HX hn hfn
        refine (HR.out).mono ?_
        rintro e w2 ⟨rfl, M', a2, en2, t2, tv2, bv2, ov2, ops2, hS2, hR2, hI2, hl2, hf2⟩
        have G2 := Lib.hid (HG.out w2 (by exact hf2))
        have S2 := Lib.hid hS2
        have T2 := Lib.hid hR2.t
        clear hf2 hS2 hR2 hI2
        have Hl2 := Lib.hid hl2
        clear hl2
        go_wp2_with fail
        refine (HF.out _).mono ?_
        rintro e w3 ⟨rfl, g3⟩
        have G3 := Lib.hid (G2.out.trans g3)
        have S3 := Lib.hid (S2.out.gr g3)
        clear g3
        obtain ⟨ao, cap, rfl⟩ := ownsRow_shape T2.out
        obtain ⟨c0, c1, c2, c3, c4, c5, c6, c7, cf⟩ := S3.out.cells
        have hn1 : ((toksOf r.1).length : Int) > 1000 := by rw [toksOf_len]; have := Hn.out; omega
        go_wp2_with fail
        refine bodyPost_ret (v := .tuple #[.pointer none, .int .i64 0, .int .i64 3]) (by simp [results, Tryd.results9, go_sem]) rfl ?_
        exact ⟨⟨0, Nat.zero_le _, rfl⟩, G3.out⟩
      · have hx : X = .ok r := by rw [HX.out]; rw [lexY_some, if_neg hfn, if_neg hn]
        subst hx
        have Hn := Lib.hid hn
        clear HX hn hfn
        refine (HR.out).mono ?_
        rintro e w2 ⟨rfl, M', a2, en2, t2, tv2, bv2, ov2, ops2, hS2, hR2, hI2, hl2, hf2⟩
        have G2 := Lib.hid (HG.out w2 (by exact hf2))
        have S2 := Lib.hid hS2
        have T2 := Lib.hid hR2
        have I2 := Lib.hid hI2
        clear hf2 hS2 hR2 hI2 hl2
        go_wp2_with fail
        refine (HF.out _).mono ?_
        rintro e w3 ⟨rfl, g3⟩
        have G3 := Lib.hid (G2.out.trans g3)
        have S3 := Lib.hid (S2.out.gr g3)
        have T3 := Lib.hid ((T2.out.mono (b2 := w.heap.size) (by have := Z1.out; omega)).gr g3)
        clear g3
        obtain ⟨ao, cap, rfl⟩ := ownsRow_shape T3.out.t
        obtain ⟨c0, c1, c2, c3, c4, c5, c6, c7, cf⟩ := S3.out.cells
        have hn2 : ¬ ((toksOf r.1).length : Int) > 1000 := by rw [toksOf_len]; have := Hn.out; omega
        go_wp2_with fail
        refine bodyPost_ret (v := .tuple #[.pointer (some ⟨w.heap.size + 1, 0, none⟩), .int .i64 0, .int .i64 0]) (by simp [results, Tryd.results9, go_sem]) rfl ?_
        exact ⟨_, _, _, _, _, _, _, _, _, rfl, S3.out, T3.out, I2.out, by have := Hn.out; omega, G3.out⟩
end Go.Proofs.YthmopindibdhnaaDoor.G
namespace Go.Proofs.YthmopindibdhnaaDoor.G
open Go.RowKit Go.Shelf Go.Maps
variable {s : ByteArray}
theorem scan_all (w : World) (hFA : ∀ W, Gr w W → FieldsAt W) : Calls Tryd.prog 9 #[.string s] w (ScanP s w (lexO false s.data.toList)) := by
  by_cases h : 4000 < s.size
  · exact scan_large h w
  · exact scan_g (by omega) w hFA
def LexP (s : ByteArray) (w : World) (X : Except Nat (List RTok × List Bool)) (e : Ending) (w' : World) : Prop :=
  match X with
  | .error n => (∃ p : Nat, p ≤ s.size ∧ e = .returned (.tuple #[.slice none 0 0, .int .i64 p, .int .i64 (n : Int)])) ∧ Gr w w'
  | .ok r => ∃ tv, e = .returned (.tuple #[tv, .int .i64 (r.1.length : Nat), .int .i64 0]) ∧ OwnT w' w.heap.size tv (toksOf r.1) ∧ RInvs r.1 r.2 ∧ r.1.length ≤ 1000 ∧ Gr w w'
def TermsP (w : World) (X : Except Nat (List RTok × List Bool)) (e : Ending) (w' : World) : Prop :=
  match X with
  | .error n => e = .returned (.tuple #[.slice none 0 0, .int .i64 (n : Int)]) ∧ Gr w w'
  | .ok r => ∃ bv, e = .returned (.tuple #[bv, .int .i64 0]) ∧ OwnB w' w.heap.size bv r.2.reverse ∧ r.2.length ≤ 1000 ∧ Gr w w'
theorem lexO_err {ref : Bool} {l : List UInt8} {n : Nat} (h : lexO ref l = .error n) : n = 2 ∨ n = 3 := by
  unfold lexO at h
  split at h
  · cases h; exact .inr rfl
  · cases e : scanS ref (l.length + 1) (srcOf l) true [] [] [] with
    | none => rw [e] at h; cases h; exact .inl rfl
    | some r =>
      rw [e, lexY_some] at h
      split at h
      · cases h; exact .inl rfl
      · split at h
        · cases h; exact .inr rfl
        · cases h
set_option maxRecDepth 100000 in
set_option maxHeartbeats 2000000 in
theorem lex_g (w : World) (hFA : ∀ W, Gr w W → FieldsAt W) : Calls Tryd.prog 6 #[.string s] w (LexP s w (lexO false s.data.toList)) := by
  have HF := Lib.hid (scan_all (s := s) w hFA)
  have HE := Lib.hid (fun n => lexO_err (ref := false) (l := s.data.toList) (n := n))
  generalize lexO false s.data.toList = X at *
  clear hFA
  cases X with
  | error n =>
    have hn : ((n : Int) != 0) = true := by have := HE.out n rfl; simp; omega
    clear HE
    go_enter Tryd.func6, Tryd.ntmps6
    go_wp2_with fail
    refine (HF.out).mono ?_
    rintro e w3 ⟨⟨p, hp, rfl⟩, g3⟩
    have G3 := Lib.hid g3
    clear g3
    go_wp2_with fail
    refine bodyPost_ret (v := .tuple #[.slice none 0 0, .int .i64 (p : Int), .int .i64 (n : Int)]) (by simp [results, Tryd.results6, go_sem]) rfl ?_
    exact ⟨⟨p, hp, rfl⟩, G3.out⟩
  | ok r =>
    clear HE
    go_enter Tryd.func6, Tryd.ntmps6
    go_wp2_with fail
    refine (HF.out).mono ?_
    rintro e w3 ⟨P, M, a2, e2, t2, tv, bv, ov, ops, rfl, hS3, hR3, hI3, hl3, g3⟩
    have S3 := Lib.hid hS3
    have T3 := Lib.hid hR3.t
    have I3 := Lib.hid hI3
    have G3 := Lib.hid g3
    have L3 := Lib.hid hl3
    clear g3 hS3 hR3 hI3 hl3
    obtain ⟨ao, cap, rfl⟩ := ownsRow_shape T3.out
    obtain ⟨c0, c1, c2, c3, c4, c5, c6, c7, cf⟩ := S3.out.cells
    go_wp2_with fail
    go_quiet (fail)
    go_wp2_with fail
    refine bodyPost_ret (v := .tuple #[.slice ao (toksOf r.1).length cap, .int .i64 ((toksOf r.1).length : Int), .int .i64 0]) (by simp [results, Tryd.results6, go_sem]) rfl ?_
    exact ⟨_, by rw [toksOf_len], ownsRow_gr T3.out ((Gr.refl w3).drewN _), I3.out, L3.out, G3.out.drewN _⟩
end Go.Proofs.YthmopindibdhnaaDoor.G
namespace Go.Proofs.YthmopindibdhnaaDoor.G
open Go.RowKit Go.Shelf Go.Maps
variable {w w' : World}
theorem cell_lt {g j : Nat} {v : Value} (h : w.cell? ⟨g, j, none⟩ = some v) : g < w.heap.size := by
  unfold World.cell? at h
  simp only at h
  cases e : w.heap[g]? with
  | none => rw [e] at h; exact nomatch h
  | some o => exact (Array.getElem?_eq_some_iff.1 e).1
theorem cell_keep {g j : Nat} {v : Value} (k : Gr w w') (h : w.cell? ⟨g, j, none⟩ = some v) : w'.cell? ⟨g, j, none⟩ = some v := by
  rw [cell_gr k (cell_lt h)]; exact h
theorem white_gr {g : Nat} (h : Lib.WhiteTab g w) (k : Gr w w') : Lib.WhiteTab g w' := by
  obtain ⟨T, oT, R, oR, h1, h2, h3, h4, h5⟩ := h
  exact ⟨T, oT, R, oR, cell_keep k h1, cell_keep k h2, cell_keep k h3, cell_keep k h4, fun i hi => cell_keep k (h5 i hi)⟩
theorem tab_gr {n : String} {k : IntKind} {zs : List Int} (h : Lib.TabIs Tryd.prog w n k zs) (g : Gr w w') {b : Nat} (hn : Tryd.prog.globalNamed n = some b) : Lib.TabIs Tryd.prog w' n k zs := by
  unfold Lib.TabIs at *
  refine var?_below (B := w.heap.size) g hn ?_ h
  unfold World.var? at h
  rw [hn] at h
  simp only [Option.bind_some] at h
  cases e : w.heap[b]? with
  | none => rw [e] at h; exact nomatch h
  | some o => exact (Array.getElem?_eq_some_iff.1 e).1
theorem fields_at (htab : Lib.TabIs Tryd.prog w "strings.asciiSpace" .u8 Lib.asciiSpaceTab) (hW : Lib.WhiteTab 2 w) : ∀ W, Gr w W → FieldsAt W := by
  intro W k l hl
  have hsz : (⟨l.toArray⟩ : ByteArray).size = l.length := by rw [← sizeL]
  refine (Any.strings_Fields_any Tryd.lays157 (by kernel_rfl) (by kernel_rfl) (by kernel_rfl) ⟨l.toArray⟩ W (by rw [hsz]; omega) (tab_gr htab k (b := 1) (by kernel_rfl)) (white_gr hW k)).mono ?_
  rintro e w2 ⟨A, rfl, hA, hO, hB⟩
  refine ⟨A, by rw [List.length_map], ?_, ?_, hB⟩
  · obtain ⟨_, _, cur, h3⟩ := own_ge hO (i := A) rfl
    exact (Array.getElem?_eq_some_iff.1 h3).1
  · intro j x hx
    have hj : j < (Lib.fieldsD l).length := by
      have := (List.getElem?_eq_some_iff.1 hx).1
      simpa using this
    obtain ⟨g, cap, h1, h2, h3, h4, h5⟩ := own_cell hO (fun e => by rw [e] at hj; exact absurd hj (Nat.not_lt_zero _))
    injection h1 with h1
    injection h1 with h1
    injection h1 with h1
    subst h1
    refine h5 j _ ?_
    show ((Lib.fieldsD l).map fun x => Value.string ⟨x.toArray⟩)[j]? = some (.string x)
    rw [List.getElem?_map] at hx ⊢
    cases hf : (Lib.fieldsD l)[j]? with
    | none => rw [hf] at hx; exact nomatch hx
    | some y => rw [hf] at hx; injection hx with hx; rw [← hx]; rfl
end Go.Proofs.YthmopindibdhnaaDoor.G
