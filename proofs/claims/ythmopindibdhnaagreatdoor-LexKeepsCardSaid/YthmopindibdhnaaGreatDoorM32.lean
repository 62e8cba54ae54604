/- RAll RScan RLex OpenW -/
import Derived.Test.YthmopindibdhnaaGreatDoorM31
import Derived.Deep.CutBlock
import Derived.Test.YthmopindibdhnaaGreatDoorM23
import Derived.Test.YthmopindibdhnaaGreatDoorRows
import Derived.Lib.LaidU8
import Derived.Lib.LaidTab
import Derived.Stop.LaidErr
namespace Go.Proofs.YthmopindibdhnaaGreatDoor.G
open Go.RowKit Go.Shelf Go.Maps
variable {w w' : World} {P base : Nat} {s : ByteArray} {pv : Value} {at_ : Nat} {tv bv : Value} {tm : Bool} {ov : Value} {en : Nat} {sg : Bool} {G : Prop} {S : Src} {rt : List RTok} {tms : List Bool} {ops : List Nat} {ks : List Tok} {Y : Option (List RTok × List Bool)}
theorem keepI_but (k : But P w w') (hP : P < base) : KeepI base w w' := fun i cur hi hc => by
  rw [k.block i (Array.getElem?_eq_some_iff.1 hc).1 (fun e => by have h1 : i = P := (by injection e); omega)]
  exact hc
theorem RSt.but {b : Nat} (h : RSt G w P base S at_ tm en rt tms ops ks s pv tv bv ov) (k : But P w w') (hsc : RSc w' P s pv b tv bv tm ov en (sgB rt tms)) : RSt G w' P base S b tm en rt tms ops ks s pv tv bv ov :=
  ⟨h.eq, hsc, own_but h.t k h.pb, own_but h.b k h.pb, h.o.keep (keepI_but k h.pb), own_but h.p k h.pb, h.lk, h.gs, h.le, h.tl, h.ap, h.pb, Nat.le_trans h.bw k.size⟩
/-- how many bytes are left -/
def lefR (P : Nat) (w : World) : Nat := match w.cell? ⟨P, 0, none⟩, w.cell? ⟨P, 2, none⟩ with
  | some (.string s), some (.int _ c) => ((s.size : Int) - c).toNat
  | _, _ => 0
theorem RSt.lef (h : RSt G w P base S at_ tm en rt tms ops ks s pv tv bv ov) : lefR P w = S.length - at_ := by
  obtain ⟨c0, _, c2, _⟩ := h.sc.cells
  unfold lefR
  rw [c0, c2]
  have := h.size
  simp only
  omega
/-- behind a token, blanks not yet skipped -/
def PreL (G : Prop) (P base : Nat) (Y : Option (List RTok × List Bool)) (w : World) : Prop :=
  ∃ S b tm rt tms ops ks s pv tv bv ov f, RSt G w P base S b tm b rt tms ops ks s pv tv bv ov ∧ Y = scanS true (f + 1) (S.drop b) tm rt tms ops ∧ b ≤ S.length ∧ S.length - b ≤ f ∧ ops.length ≤ ks.length ∧ ks.length + (S.length - b) ≤ 4000
/-- ahead of a token -/
def AtL (G : Prop) (P base : Nat) (Y : Option (List RTok × List Bool)) (w : World) : Prop :=
  ∃ S a en tm rt tms ops ks s pv tv bv ov f, RSt G w P base S a tm en rt tms ops ks s pv tv bv ov ∧ Y = scanS true (f + 1) (S.drop en) tm rt tms ops ∧ S.drop a = skipS false (S.drop en) ∧ en ≤ a ∧ a ≤ S.length ∧ S.length - en ≤ f ∧ ops.length ≤ ks.length ∧ ks.length + (S.length - en) ≤ 4000
theorem pre_skip (h : PreL G P base Y w) : Calls Tryz.prog 34 #[.pointer (some ⟨P, 0, none⟩)] w fun e w' => e = .returned (.tuple #[]) ∧ AtL G P base Y w' ∧ But P w w' ∧ lefR P w' ≤ lefR P w := by
  obtain ⟨S, b, tm, rt, tms, ops, ks, s, pv, tv, bv, ov, f, h1, h2, h3, h4, h5, h6⟩ := h
  have hsz := h1.size
  have hle := h1.le
  refine (skip_r h1.sc S h1.eq (by omega) (by omega)).mono ?_
  rintro e w' ⟨a, rfl, k1, k2, k3, k4, k5⟩
  have R := h1.but k2 k1
  refine ⟨rfl, ⟨S, a, b, tm, rt, tms, ops, ks, s, pv, tv, bv, ov, f, R, h2, k5, k3, by omega, h4, h5, h6⟩, k2, ?_⟩
  rw [R.lef, h1.lef]
  omega
theorem brace_raw (t : RTok) (rt : List RTok) (tms : List Bool) (near : Bool) (ops : List Nat) : (braceS t rt tms near ops).1.raw = t.raw ∧ (braceS t rt tms near ops).2.length ≤ ops.length + 1 := by
  unfold braceS
  split
  · exact ⟨rfl, by simp⟩
  · split
    · refine ⟨rfl, ?_⟩
      show ops.tail.length ≤ _
      rw [List.length_tail]; omega
    · exact ⟨rfl, by show ops.length ≤ ops.length + 1; omega⟩
theorem scanS_end {R : Src} {f : Nat} (h : skipS false R = []) : scanS true (f + 1) R tm rt tms ops = some (rt, tms) := by rw [scanS, if_pos h]
theorem scanS_none {R : Src} {f : Nat} (h : skipS false R ≠ []) (h2 : nextS true (skipS false R) tm = none) : scanS true (f + 1) R tm rt tms ops = none := by rw [scanS, if_neg h, h2]
theorem scanS_some {R : Src} {f : Nat} {r : RTok × Src} (h : skipS false R ≠ []) (h2 : nextS true (skipS false R) tm = some r) (near : Bool) (hn : near = decide ((skipS false R).length = R.length)) : scanS true (f + 1) R tm rt tms ops = scanS true f r.2 (behindB (braceS r.1 rt tms near ops).1.kind (braceS r.1 rt tms near ops).1.raw (braceS r.1 rt tms near ops).1.opn tm) ((braceS r.1 rt tms near ops).1 :: rt) (tm :: tms) (braceS r.1 rt tms near ops).2 := by
  rw [scanS, if_neg h, h2, hn, (brace_raw _ _ _ _ _).1]
/-- one token -/
theorem at_next {f : Nat} (h1 : RSt G w P base S at_ tm en rt tms ops ks s pv tv bv ov) (h2 : Y = scanS true (f + 1) (S.drop en) tm rt tms ops) (h3 : S.drop at_ = skipS false (S.drop en)) (h4 : en ≤ at_) (hat : at_ < S.length) (h5 : S.length - en ≤ f) (h6 : ops.length ≤ ks.length) (h7 : ks.length + (S.length - en) ≤ 4000) :
    Calls Tryz.prog 35 #[.pointer (some ⟨P, 0, none⟩)] w fun e w' => (e = .returned (.bool false) ∧ Y = none ∧ Gr w w') ∨ (e = .returned (.bool true) ∧ PreL G P base Y w' ∧ Fr P base w w' ∧ lefR P w' < lefR P w) := by
  refine (next_r h1 hat (by omega) (by omega)).mono ?_
  intro e w' hc
  have hne : skipS false (S.drop en) ≠ [] := by
    rw [← h3]
    intro e
    have := congrArg List.length e
    rw [List.length_drop] at this
    simp at this
    omega
  have hnear : decide (en = at_) = decide ((skipS false (S.drop en)).length = (S.drop en).length) := by
    rw [← h3, List.length_drop, List.length_drop]
    congr 1
    exact propext ⟨fun e => by omega, fun e => by omega⟩
  cases hn : nextS true (S.drop at_) tm with
  | none =>
    rw [hn] at hc
    exact .inl ⟨hc.1, by rw [h2]; exact scanS_none hne (by rw [← h3]; exact hn), hc.2⟩
  | some r =>
    rw [hn] at hc
    obtain ⟨rfl, S', b, ⟨s', p', t', b', o', kk, k1, k2⟩, k3, k4, k5, k6⟩ := hc
    have hb := (brace_raw r.1 rt tms (decide (en = at_)) ops).2
    have hl : S'.length - b < S.length - at_ := by rw [← k3, List.length_drop] at k4; exact k4
    refine .inr ⟨rfl, ⟨S', b, _, _, _, _, _, s', p', t', b', o', f - 1, k1, ?_, k6, by omega, by simp; omega, by simp; omega⟩, k2, ?_⟩
    · rw [h2, scanS_some hne (by rw [← h3]; exact hn) _ hnear, k3]
      rw [show f - 1 + 1 = f by omega]
    · rw [k1.lef, h1.lef]
      exact hl
theorem Lks.map (hg : G) : ∀ {ks : List Tok} {rt : List RTok}, Lks G ks rt → ks = rt.map rend
  | [], [], _ => rfl
  | _ :: ks, _ :: rt, h => by rw [List.map_cons, h.1.own hg, Lks.map hg h.2]
  | [], _ :: _, h => h.elim
  | _ :: _, [], h => h.elim
/-- what the source of a text is -/
theorem jok0 (l : List UInt8) : JOk l fun _ => none := jok_nil l
theorem rest_byt (l : List UInt8) : ∀ n a, l.length - a ≤ n → byt (rest l (fun _ => none) a) = l.drop a
  | 0, a, h => by rw [rest_nil (by omega), List.drop_eq_nil_of_le (by omega)]; rfl
  | n + 1, a, h => by
    by_cases ha : a < l.length
    · rw [rest_cons (jok0 l) ha, List.drop_eq_getElem_cons ha, byt_cons, show nx (fun _ => none) a = a + 1 from rfl, rest_byt l n (a + 1) (by omega)]
    · rw [rest_nil (by omega), List.drop_eq_nil_of_le (by omega)]; rfl
theorem src_byt (l : List UInt8) : byt (srcOf l) = l := by
  unfold srcOf
  rw [rest_byt l l.length 0 (by omega)]; rfl
theorem src_len (l : List UInt8) : (srcOf l).length = l.length := by rw [← byt_len, src_byt]
theorem rest_pl (l : List UInt8) : ∀ n a, l.length - a ≤ n → (rest l (fun _ => none) a).map Prod.fst = List.range' a (l.length - a)
  | 0, a, h => by rw [rest_nil (by omega), show l.length - a = 0 by omega]; rfl
  | n + 1, a, h => by
    by_cases ha : a < l.length
    · rw [rest_cons (jok0 l) ha, List.map_cons, show nx (fun _ => none) a = a + 1 from rfl, rest_pl l n (a + 1) (by omega), show l.length - a = (l.length - (a + 1)) + 1 by omega, List.range'_succ]
    · rw [rest_nil (by omega), show l.length - a = 0 by omega]; rfl
theorem src_pl (l : List UInt8) : (srcOf l).map (fun x => Value.int .i64 (x.1 : Int)) = (List.range l.length).map (fun (x : Nat) => Value.int .i64 (x : Int)) := by
  have h : (srcOf l).map Prod.fst = List.range l.length := by
    unfold srcOf
    rw [rest_pl l l.length 0 (by omega), List.range_eq_range']; rfl
  rw [← h, List.map_map]; rfl
theorem forN_own : ∀ l, forN l = l.length → ∀ c ∈ l, ownC c = true
  | [], _ => fun c hc => nomatch hc
  | c :: t, h => by
    rw [forN] at h
    split at h
    · rename_i hc
      intro d hd
      rcases List.mem_cons.1 hd with rfl | hd
      · exact hc
      · exact forN_own t (by simpa using h) d hd
    · simp at h
theorem forN_on {l : List UInt8} {i : Nat} (h : i < l.length) (hc : ownC l[i] = true) : forN (l.drop i) = forN (l.drop (i + 1)) + 1 := by rw [List.drop_eq_getElem_cons h, forN, if_pos hc]
theorem forN_stop {l : List UInt8} {i : Nat} (h : i < l.length) (hc : ownC l[i] = false) : forN (l.drop i) = 0 := by rw [List.drop_eq_getElem_cons h, forN, if_neg (by rw [hc]; decide)]
def ScanR (w : World) (X : Except Nat (List RTok × List Bool)) (e : Ending) (w' : World) : Prop :=
  match X with
  | .error n => (∃ p : Int, e = .returned (.tuple #[.slice none 0 0, .slice none 0 0, .int .i64 p, .int .i64 (n : Int)])) ∧ Gr w w'
  | .ok r => ∃ tv bv, e = .returned (.tuple #[tv, bv, .int .i64 (r.1.length : Nat), .int .i64 0]) ∧ OwnT w' w.heap.size tv (toksOf r.1) ∧ OwnB w' w.heap.size bv r.2.reverse ∧ r.2.length = r.1.length ∧ r.1.length ≤ 1000 ∧ Gr w w'
/-- the rows when all is scanned -/
theorem at_end {f : Nat} (h1 : RSt G w P base S at_ tm en rt tms ops ks s pv tv bv ov) (h2 : Y = scanS true (f + 1) (S.drop en) tm rt tms ops) (h3 : S.drop at_ = skipS false (S.drop en)) (hat : S.length ≤ at_) : Y = some (rt, tms) ∧ ks.length = rt.length ∧ (G → OwnT w base tv (toksOf rt) ∧ OwnB w base bv tms.reverse) := by
  refine ⟨by rw [h2]; exact scanS_end (by rw [← h3]; exact List.drop_eq_nil_of_le hat), h1.lk.len, fun hg => ⟨?_, h1.b⟩⟩
  have := h1.t
  rw [h1.lk.map hg] at this
  exact this
end Go.Proofs.YthmopindibdhnaaGreatDoor.G
namespace Go.Proofs.YthmopindibdhnaaGreatDoor.G
open Go.RowKit Go.Shelf Go.Maps
variable {w w' : World} {P base : Nat} {s : ByteArray} {pv : Value} {at_ : Nat} {tv bv : Value} {tm : Bool} {ov : Value} {en : Nat} {sg : Bool} {G : Prop} {S : Src} {rt : List RTok} {tms : List Bool} {ops : List Nat} {ks : List Tok} {Y : Option (List RTok × List Bool)}
set_option maxRecDepth 100000 in
set_option maxHeartbeats 2000000 in
theorem scanr_large (hs : 4000 < s.size) (w : World) : Calls Tryz.prog 19 #[.string s] w (ScanR w (lexO true s.data.toList)) := by
  have hx : lexO true s.data.toList = .error 3 := by unfold lexO; rw [sizeL, if_pos hs]
  rw [hx]
  have hs1 : (s.size : Int) > 4000 := by omega
  clear hs hx
  go_enter Tryz.func19, Tryz.ntmps19
  go_wp2_with fail
  refine bodyPost_ret (v := .tuple #[.slice none 0 0, .slice none 0 0, .int .i64 0, .int .i64 3]) (by simp [results, Tryz.results19, go_sem]) rfl ?_
  exact ⟨⟨0, rfl⟩, Gr.refl w⟩
theorem min_val (a b : Int) : ∃ p : Int, p = min a b := ⟨_, rfl⟩
set_option maxRecDepth 100000 in
set_option maxHeartbeats 4000000 in
theorem scanr_g (hs : s.size ≤ 4000) (w : World) : Calls Tryz.prog 19 #[.string s] w (ScanR w (lexO true s.data.toList)) := by
  obtain ⟨l, hl⟩ : ∃ l, l = s.data.toList := ⟨_, rfl⟩
  have hsz : s.size = l.length := by rw [hl, ← sizeL]
  have Hsz := Lib.hid hsz
  have HB := Lib.hid (fun n (h : n < s.size) (h' : n < l.length) => (show s[n] = l[n] by subst hl; exact byteE s n h h'))
  have HI := Lib.hid isByte_r
  have Hsrc : Hid (s.data.toList = byt (srcOf l)) := Lib.hid (by rw [src_byt, hl])
  rw [← hl]
  obtain ⟨Y, hY⟩ : ∃ Y, Y = scanS true (l.length + 1) (srcOf l) true [] [] [] := ⟨_, rfl⟩
  have HY := Lib.hid hY
  obtain ⟨fn, hfn⟩ : ∃ fn, fn = forN l := ⟨_, rfl⟩
  have HX : Hid (lexO true l = lexY s.size fn Y) := Lib.hid (by
      unfold lexO; rw [if_neg (by omega), ← hY, hsz, ← hfn])
  have Hfn : Hid (fn ≤ s.size) := Lib.hid (by rw [hsz, hfn]; exact forN_le _)
  have Hfd : Hid (fn = 0 + forN (l.drop 0)) := Lib.hid (by rw [hfn]; simp)
  have HG : Hid (fn = s.size → ∀ c ∈ l, ownC c = true) := Lib.hid (fun e => forN_own l (by rw [← hfn, ← hsz]; exact e))
  generalize lexO true l = X at *
  have hs1 : ¬ (s.size : Int) > 4000 := by omega
  have hs2 : decide ((4000 : Int) < (s.size : Int)) = false := by simp; omega
  have Hs := Lib.hid hs
  clear hl hsz hY hfn
  go_enter Tryz.func19, Tryz.ntmps19
  go_upto_block 0 with fail
  go_cut [6] from 12 to 23 (fun iv wx => iv = .int .i64 (fn : Int) ∧ w = wx)
  case first =>
    go_wp2_with fail
    go_loopw [6] (fun iv wr => ∃ i : Nat, iv = .int .i64 (i : Int) ∧ i ≤ s.size ∧ Hid (fn = i + forN (l.drop i)) ∧ w = wr) (fun iv _ => leftTo s.size iv)
    case atStart => exact ⟨0, rfl, Nat.zero_le _, Hfd, rfl⟩
    case round =>
      obtain ⟨i, rfl, hi, hF, rfl⟩ := hrel
      clear Hfd
      by_cases hc : i < s.size
      · have hci : (i : Int) < (s.size : Int) := by omega
        have hL : i < l.length := by rw [← Hsz.out]; exact hc
        have ex := HB.out i hc hL
        have hi1 : (i : Int) + 1 ≤ 9223372036854775807 := by omega
        have hi2 : -9223372036854775808 ≤ (i : Int) + 1 := by omega
        have hIb := Lib.hid (fun w => HI.out (l[i].toNat : Int) w)
        cases hd : ownB (l[i].toNat : Int) with
        | true =>
          have HE : Hid (fn = (i + 1) + forN (l.drop (i + 1))) := Lib.hid (by rw [hF.out, forN_on hL hd]; omega)
          rw [hd] at hIb
          have Hc := Lib.hid hc
          clear hd hF HB HI
          generalize l[i] = y at *
          clear hL
          go_wp2_with (go_at_call 33; refine (hIb.out _).mono ?_; rintro e4 w4 ⟨rfl, rfl⟩)
          go_roundw
          case rel => exact ⟨i + 1, rfl, Hc.out, HE, by first | rfl | trivial⟩
          case measure => simp [leftTo]; omega
        | false =>
          have HE : Hid (fn = i) := Lib.hid (by rw [hF.out, forN_stop hL hd]; omega)
          rw [hd] at hIb
          clear hd hF HB HI
          generalize l[i] = y at *
          clear hL
          go_wp2_with (go_at_call 33; refine (hIb.out _).mono ?_; rintro e4 w4 ⟨rfl, rfl⟩)
          go_meet
          exact ⟨by rw [HE.out], rfl⟩
      · have hci : decide ((i : Int) < (s.size : Int)) = false := by simp; omega
        have hci2 : ¬ (i : Int) < (s.size : Int) := by omega
        have hci3 : decide (i < s.size) = false := decide_eq_false hc
        have HE : Hid (fn = i) := Lib.hid (by rw [hF.out, List.drop_eq_nil_of_le (by rw [← Hsz.out]; omega)]; rfl)
        clear hF HB HI hc
        go_wp2_with fail
        go_meet
        exact ⟨by rw [HE.out], rfl⟩
  case rest =>
  obtain ⟨rfl, rfl⟩ := hcut
  clear Hfd HB HI
  go_wp2_with fail
  obtain ⟨P, hP⟩ : ∃ P, P = w.heap.size := ⟨_, rfl⟩
  generalize hW : w.alloc (.cells #[.string s, .slice none 0 0, .int .i64 0, .slice none 0 0, .slice none 0 0, .bool true, .slice none 0 0, .int .i64 0, .bool false] 66) = W1 at *
  have S1 : Hid (RSc W1 P s (.slice none 0 0) 0 (.slice none 0 0) (.slice none 0 0) true (.slice none 0 0) 0 false) := Lib.hid ⟨by rw [← hW, hP]; exact heap_alloc_new w _⟩
  have G1 : Hid (Gr w W1) := Lib.hid (by rw [← hW]; exact (Gr.refl w).alloc _)
  have Z1 : Hid (W1.heap.size = P + 1) := Lib.hid (by rw [← hW, hP]; simp)
  rw [← hP]
  have HP := Lib.hid hP
  have HGr : Hid (∀ W, Fr P (P + 1) W1 W → Gr w W) := Lib.hid (fun W h => ⟨h.os.trans G1.out.os, h.tape.trans G1.out.tape, h.output.trans G1.out.output, Nat.le_trans G1.out.size h.size, fun k hk => (h.block k (by omega) (by omega)).trans (G1.out.block k hk)⟩)
  clear hW hP
  go_loopw [8] (fun iv wr => ∃ (i : Nat) (pv : Value), iv = .int .i64 (i : Int) ∧ i ≤ s.size ∧ Hid (RSc wr P s pv 0 (.slice none 0 0) (.slice none 0 0) true (.slice none 0 0) 0 false) ∧ Hid (OwnI wr (P + 1) pv (List.range i)) ∧ Hid (Fr P (P + 1) W1 wr)) (fun iv _ => leftTo s.size iv)
  case atStart => exact ⟨0, .slice none 0 0, rfl, Nat.zero_le _, S1, Lib.hid ⟨by simp, .inl ⟨rfl, rfl⟩⟩, Lib.hid (Fr.refl _ _ _)⟩
  case round =>
    obtain ⟨i, pv, rfl, hi, SR, OR, FR⟩ := hrel
    by_cases hc : i < s.size
    · have hci : (i : Int) < (s.size : Int) := by omega
      have hi1 : (i : Int) + 1 ≤ 9223372036854775807 := by omega
      have hi2 : -9223372036854775808 ≤ (i : Int) + 1 := by omega
      have Hc := Lib.hid hc
      obtain ⟨c0, c1, c2, c3, c4, c5, c6, c7, c8, cf⟩ := SR.out.cells
      have hbw : P + 1 ≤ wr.heap.size := by have := FR.out.size; have := Z1.out; omega
      have Hbw := Lib.hid hbw
      obtain ⟨_, b1, _, _, _, _, _, _, _, _⟩ := (SR.out.gr ((Gr.refl wr).alloc (.cells #[.int .i64 (i : Int)] 3))).cells
      obtain ⟨i0, hi0, hz0, hz1, hz2⟩ := info_parts infoInt
      have hrl : (List.range i).length = i := List.length_range
      have Hrl := Lib.hid hrl
      have hOwn : wr.ownsRow (P + 1) 3 1 pv i ((List.range i).map fun (x : Nat) => Value.int .i64 (x : Int)) := by
        have := OR.out
        unfold OwnI at this
        rw [hrl] at this
        exact this
      have HOwn := Lib.hid hOwn
      have hi4 : i ≤ 4000 := by have := Hs.out; omega
      clear hc hbw hrl hOwn OR hi
      go_wp2_with (at_builtin; refine wpList_append_own _ rfl (.tmp 37) (.tmp 39) 48 rfl (P + 1) 3 i0 (.int .i64 0) 1 8 Tryz.underlying48 hi0 hz0 hz1 hz2 rfl (by decide) _ _ _ rfl (ownsRow_gr HOwn.out ((Gr.refl wr).alloc _)) ⟨wr.heap.size, 0, none⟩ 1 1 [.int .i64 (i : Int)] rfl rfl ?c1 ?c2 ?c3 ?c4 ?c5 ?_)
      case c1 => exact fun j u hj => newCellsAt (by simp) hj
      case c2 => intro u hu; simp at hu; subst hu; rfl
      case c3 => unfold maxLen; omega
      case c4 => omega
      case c5 => have := Hbw.out; simp; omega
      intro v' w1 hown' hgrow _
      have GX : Gr wr (wr.alloc (.cells #[.int .i64 (i : Int)] 3)) := (Gr.refl wr).alloc _
      have hP1 : pv.ownBlock ≠ some P := own_apart HOwn.out (.inl (Nat.lt_succ_self _))
      have hP2 : some P ≠ v'.ownBlock := fun e => own_apart hown' (.inl (Nat.lt_succ_self _)) e.symm
      have S4 := Lib.hid ((SR.out.gr GX).grown hgrow hP1)
      have HO4 : Hid (OwnI (w1.setCell ⟨P, 1, none⟩ v') (P + 1) v' (List.range (i + 1))) := Lib.hid (by
        unfold OwnI
        rw [List.range_succ, List.length_append, List.map_append, Hrl.out]
        exact own_set hown' hP2 1 v')
      have HF4 : Hid (Fr P (P + 1) W1 (w1.setCell ⟨P, 1, none⟩ v')) := Lib.hid (Fr.but (Fr.grow (Fr.but FR.out (But.of_gr GX) Hbw.out) hgrow (Nat.le_trans Hbw.out GX.size) (fun i e => (own_ge HOwn.out e).1)) (But.set (P := P) 1 v') (Nat.le_trans Hbw.out (Nat.le_trans GX.size hgrow.size)))
      obtain ⟨m0, hm0⟩ : ∃ m0, m0 = i + 1 := ⟨_, rfl⟩
      obtain ⟨ao, cap, hv⟩ := ownsRow_shape hown'
      rw [← hm0] at hv
      subst hv
      clear hm0 hown' hgrow GX hP1 hP2 c0 c1 c2 c3 c4 c5 c6 c7 c8 cf b1 hi0 hz0 hz1 hz2 hi4 hs1 hs2
      obtain ⟨c0, c1, c2, c3, c4, c5, c6, c7, c8, cf⟩ := S4.out.cells
      go_wp2_with fail
      go_roundw
      case rel => exact ⟨i + 1, _, rfl, Hc.out, Lib.hid (S4.out.setPv _), HO4, HF4⟩
      case measure => simp [leftTo]; have := Hc.out; omega
    · have hie : i = s.size := by omega
      have hci : decide ((i : Int) < (s.size : Int)) = false := by simp; omega
      have hci2 : ¬ (i : Int) < (s.size : Int) := by omega
      have hci3 : decide (i < s.size) = false := decide_eq_false hc
      have hbw : P + 1 ≤ wr.heap.size := by have := FR.out.size; have := Z1.out; omega
      have Hbw := Lib.hid hbw
      have R0 : RSt (fn = s.size) wr P (P + 1) (srcOf l) 0 true 0 [] [] [] [] s pv (.slice none 0 0) (.slice none 0 0) (.slice none 0 0) :=
        ⟨Hsrc.out, SR.out, ⟨by simp [cellsT], .inl ⟨rfl, rfl⟩⟩, ⟨by simp, .inl ⟨rfl, rfl⟩⟩, .inl ⟨by simp, .inl ⟨rfl, rfl⟩⟩, by
          have h1 := OR.out
          show World.ownsRow _ _ _ _ _ _ _
          rw [src_len, src_pl, ← Hsz.out, ← hie]
          have h2 : (List.range i).length = i := List.length_range
          unfold OwnI at h1
          rw [h2] at h1
          exact h1, trivial, fun e c hc => HG.out e c (by rw [src_byt] at hc; exact hc), by rw [src_len, ← Hsz.out]; exact Hs.out, rfl, (fun i h => by cases h), Nat.lt_succ_self _, hbw⟩
      have hpre : PreL (fn = s.size) P (P + 1) Y wr := ⟨srcOf l, 0, true, [], [], [], [], s, pv, _, _, _, l.length, R0, HY.out, Nat.zero_le _, by rw [src_len]; omega, Nat.le_refl _, by rw [src_len, ← Hsz.out]; have := Hs.out; simpa using this⟩
      have HPre := Lib.hid hpre
      clear hpre R0 hc hie hbw
      go_wp2_with fail
      refine (pre_skip HPre.out).mono ?_
      rintro e2 w2 ⟨rfl, hA, hB, _⟩
      have HA := Lib.hid hA
      have HF2 := Lib.hid (FR.out.but hB Hbw.out)
      clear hA hB HPre
      go_wp2_with fail
      go_loopw [] (fun wz => Hid (AtL (fn = s.size) P (P + 1) Y wz) ∧ Hid (Fr P (P + 1) W1 wz)) (fun wz => lefR P wz)
      case atStart => exact ⟨HA, HF2⟩
      case round =>
        obtain ⟨AL, FL⟩ := hrel
        clear HA HF2
        obtain ⟨S, a, en, tm, rt, tms, ops, ks, s2, pv2, tv, bv, ov, f, h1, h2, h3, h4, h5, h6, h7, h8⟩ := AL.out
        have HR := Lib.hid h1
        have hs2 := h1.size
        have Hbw2 : Hid (P + 1 ≤ wr.heap.size) := Lib.hid h1.bw
        obtain ⟨c0, c1, c2, c3, c4, c5, c6, c7, c8, cf⟩ := h1.sc.cells
        by_cases hc : a < S.length
        · have hci4 : (a : Int) < (s2.size : Int) := by omega
          have HN := Lib.hid (fun W (gW : Gr wr W) => at_next (h1.gr gW) h2 h3 h4 hc h6 h7 h8)
          have HLf := Lib.hid (fun W (gW : Gr wr W) => (show lefR P W = lefR P wr by rw [(h1.gr gW).lef, h1.lef]))
          obtain ⟨gp, capp, hpv, hgp, hgps, hcapp, hpc⟩ := own_cell h1.p (by omega)
          subst hpv
          obtain ⟨pl, hpl⟩ : ∃ pl, pl = S[a].1 := ⟨_, rfl⟩
          have pc0 : wr.cell? ⟨gp, a, none⟩ = some (.int .i64 (pl : Int)) := hpc _ _ (by rw [List.getElem?_map, List.getElem?_eq_getElem hc, hpl]; rfl)
          have Hpc := Lib.hid pc0
          have hSi : (a : Int) < (S.length : Int) := by omega
          clear h1 h2 h3 h4 h5 h6 h7 h8 hpl hpc pc0 hgp hgps hcapp hc hs2 AL
          go_wp2_with fail
          go_quiet (fail)
          have G2 : Hid (Gr wr (wr.drewN nq)) := Lib.hid ((Gr.refl wr).drewN _)
          generalize wr.drewN nq = W2 at *
          go_wp2_with fail
          refine (HN.out W2 G2.out).mono ?_
          rintro e3 w3 (⟨rfl, hy, g3⟩ | ⟨rfl, hpre3, f3, hl3⟩)
          · have G3 := Lib.hid (G2.out.trans g3)
            have hx : X = .error 2 := by rw [HX.out, hy]; rfl
            subst hx
            clear g3 c0 c1 c2 c3 c4 c5 c6 c7 c8 cf hy
            obtain ⟨c0, c1, c2, c3, c4, c5, c6, c7, c8, cf⟩ := (HR.out.sc.gr G3.out).cells
            have pc0 := cell_keep G3.out Hpc.out
            go_wp2_with fail
            go_region
            all_goals
              go_wp2_with fail
              refine bodyPost_ret (v := .tuple #[.slice none 0 0, .slice none 0 0, .int .i64 (min (fn : Int) (pl : Int)), .int .i64 2]) (by simp [results, Tryz.results19, go_sem]) rfl ?_
              exact ⟨⟨_, rfl⟩, ((HGr.out wr FL.out).trans G3.out).drewN _⟩
          · have HP3 := Lib.hid hpre3
            have F3 := Lib.hid ((FL.out.trans (Fr.of_but (But.of_gr G2.out) Hbw2.out)).trans f3)
            have L3 := Lib.hid hl3
            clear hpre3 f3 hl3 c0 c1 c2 c3 c4 c5 c6 c7 c8 cf
            go_wp2_with fail
            refine (pre_skip HP3.out).mono ?_
            rintro e4 w4 ⟨rfl, hA4, hB4, hl4⟩
            have HA4 := Lib.hid hA4
            have F4 := Lib.hid (F3.out.but hB4 (Nat.le_trans (by have := Z1.out; omega) F3.out.size))
            have L4 := Lib.hid hl4
            clear hA4 hB4 hl4
            go_wp2_with fail
            go_roundw
            case rel => exact ⟨HA4, F4⟩
            case measure =>
              have := L3.out
              have := L4.out
              have := HLf.out W2 G2.out
              omega
        · have hci4 : decide ((a : Int) < (s2.size : Int)) = false := by simp; omega
          have hci5 : ¬ (a : Int) < (s2.size : Int) := by omega
          have hci6 : decide (a < s2.size) = false := decide_eq_false (by omega)
          obtain ⟨hYe, hkl, hrows⟩ := at_end h1 h2 h3 (by omega)
          have HYe := Lib.hid hYe
          have Hkl := Lib.hid hkl
          have Hrows := Lib.hid hrows
          have Htl := Lib.hid h1.tl
          obtain ⟨ao, cap, htv⟩ := ownsRow_shape h1.t
          subst htv
          clear h1 h2 h3 h4 h5 h6 h7 h8 hYe hkl hrows hc hs2 AL
          go_wp2_with fail
          go_quiet (fail)
          have G2 : Hid (Gr wr (wr.drewN nq)) := Lib.hid ((Gr.refl wr).drewN _)
          generalize wr.drewN nq = W2 at *
          clear c0 c1 c2 c3 c4 c5 c6 c7 c8 cf
          obtain ⟨c0, c1, c2, c3, c4, c5, c6, c7, c8, cf⟩ := (HR.out.sc.gr G2.out).cells
          have Gf : Hid (Gr w W2) := Lib.hid ((HGr.out wr FL.out).trans G2.out)
          by_cases hf : fn < s.size
          · have hx : X = .error 2 := by rw [HX.out, HYe.out, lexY_some, if_pos hf]
            subst hx
            have hfi : (fn : Int) < (s.size : Int) := by omega
            clear hf
            go_wp2_with fail
            refine bodyPost_ret (v := .tuple #[.slice none 0 0, .slice none 0 0, .int .i64 (fn : Int), .int .i64 2]) (by simp [results, Tryz.results19, go_sem]) rfl ?_
            exact ⟨⟨_, rfl⟩, Gf.out⟩
          · have hfe : fn = s.size := by have := Hfn.out; omega
            have hf1 : decide ((fn : Int) < (s.size : Int)) = false := by simp; omega
            have hf2 : ¬ (fn : Int) < (s.size : Int) := by omega
            have hf3 : decide (fn < s.size) = false := decide_eq_false hf
            obtain ⟨n, hn⟩ : ∃ n, n = ks.reverse.length := ⟨_, rfl⟩
            have hnr : n = rt.length := by rw [hn, List.length_reverse]; exact Hkl.out
            have Hnr := Lib.hid hnr
            rw [← hn] at c3
            by_cases hb : 1000 < n
            · have hx : X = .error 3 := by rw [HX.out, HYe.out, lexY_some, if_neg hf, if_pos (by show 1000 < rt.length; omega)]
              subst hx
              have hbi : (n : Int) > 1000 := by omega
              clear hf hfe hn hnr hb
              go_wp2_with fail
              refine bodyPost_ret (v := .tuple #[.slice none 0 0, .slice none 0 0, .int .i64 0, .int .i64 3]) (by simp [results, Tryz.results19, go_sem]) rfl ?_
              exact ⟨⟨_, rfl⟩, Gf.out⟩
            · have hx : X = .ok (rt, tms) := by rw [HX.out, HYe.out, lexY_some, if_neg hf, if_neg (by show ¬ 1000 < rt.length; omega)]
              subst hx
              have hbi : ¬ (n : Int) > 1000 := by omega
              have hbi2 : decide ((1000 : Int) < (n : Int)) = false := decide_eq_false (by omega)
              have hbi3 : decide (1000 < n) = false := decide_eq_false hb
              obtain ⟨o1, o2⟩ := Hrows.out hfe
              have O1 := Lib.hid o1
              have O2 := Lib.hid o2
              have Hb := Lib.hid (show rt.length ≤ 1000 by omega)
              rw [← hn] at O1
              clear hf hfe hn hnr hb o1 o2
              go_wp2_with fail
              go_quiet (fail)
              go_wp2_with fail
              refine bodyPost_ret (v := .tuple #[.slice ao n cap, bv, .int .i64 (n : Int), .int .i64 0]) (by simp [results, Tryz.results19, go_sem]) rfl ?_
              refine ⟨.slice ao n cap, bv, by rw [Hnr.out], own_mono (ownsRow_gr O1.out (G2.out.drewN _)) (by rw [HP.out]; omega), own_mono (ownsRow_gr O2.out (G2.out.drewN _)) (by rw [HP.out]; omega), Htl.out, Hb.out, Gf.out.drewN _⟩
end Go.Proofs.YthmopindibdhnaaGreatDoor.G
namespace Go.Proofs.YthmopindibdhnaaGreatDoor.G
open Go.RowKit Go.Shelf Go.Maps
theorem scan_ra (s : ByteArray) (w : World) : Calls Tryz.prog 19 #[.string s] w (ScanR w (lexO true s.data.toList)) := by
  by_cases h : 4000 < s.size
  · exact scanr_large h w
  · exact scanr_g (by omega) w
def LexR (w : World) (X : Except Nat (List RTok × List Bool)) (e : Ending) (w' : World) : Prop :=
  match X with
  | .error n => (∃ p : Int, e = .returned (.tuple #[.slice none 0 0, .int .i64 p, .int .i64 (n : Int)])) ∧ Gr w w'
  | .ok r => ∃ tv, e = .returned (.tuple #[tv, .int .i64 (r.1.length : Nat), .int .i64 0]) ∧ OwnT w' w.heap.size tv (toksOf r.1) ∧ r.1.length ≤ 1000 ∧ Gr w w'
set_option maxRecDepth 100000 in
set_option maxHeartbeats 2000000 in
theorem lex_r (s : ByteArray) (w : World) : Calls Tryz.prog 25 #[.string s] w (LexR w (lexO true s.data.toList)) := by
  have HF := Lib.hid (scan_ra s w)
  generalize lexO true s.data.toList = X at *
  cases X with
  | error n =>
    go_enter Tryz.func25, Tryz.ntmps25
    go_wp2_with fail
    refine (HF.out).mono ?_
    rintro e w3 ⟨⟨p, rfl⟩, g3⟩
    have G3 := Lib.hid g3
    clear g3
    go_wp2_with fail
    refine bodyPost_ret (v := .tuple #[.slice none 0 0, .int .i64 p, .int .i64 (n : Int)]) (by simp [results, Tryz.results25, go_sem]) rfl ?_
    exact ⟨⟨p, rfl⟩, G3.out⟩
  | ok r =>
    go_enter Tryz.func25, Tryz.ntmps25
    go_wp2_with fail
    refine (HF.out).mono ?_
    rintro e w3 ⟨tv, bv, rfl, a1, a2, a3, a4, a5⟩
    have A1 := Lib.hid a1
    have A4 := Lib.hid a4
    have A5 := Lib.hid a5
    clear a1 a2 a3 a4 a5
    go_wp2_with fail
    refine bodyPost_ret (v := .tuple #[tv, .int .i64 (r.1.length : Nat), .int .i64 0]) (by simp [results, Tryz.results25, go_sem]) rfl ?_
    exact ⟨tv, rfl, A1.out, A4.out, A5.out⟩
set_option maxRecDepth 100000 in
set_option maxHeartbeats 2000000 in
theorem terms_r (s : ByteArray) (w : World) : Calls Tryz.prog 9 #[.string s] w (TermsP w (lexO true s.data.toList)) := by
  have HF := Lib.hid (scan_ra s w)
  generalize lexO true s.data.toList = X at *
  cases X with
  | error n =>
    go_enter Tryz.func9, Tryz.ntmps9
    go_wp2_with fail
    refine (HF.out).mono ?_
    rintro e w3 ⟨⟨p, rfl⟩, g3⟩
    have G3 := Lib.hid g3
    clear g3
    go_wp2_with fail
    refine bodyPost_ret (v := .tuple #[.slice none 0 0, .int .i64 (n : Int)]) (by simp [results, Tryz.results9, go_sem]) rfl ?_
    exact ⟨rfl, G3.out⟩
  | ok r =>
    go_enter Tryz.func9, Tryz.ntmps9
    go_wp2_with fail
    refine (HF.out).mono ?_
    rintro e w3 ⟨tv, bv, rfl, a1, a2, a3, a4, a5⟩
    have A1 := Lib.hid a2
    have A4 := Lib.hid (show r.2.length ≤ 1000 by omega)
    have A5 := Lib.hid a5
    clear a1 a2 a3 a4 a5
    go_wp2_with fail
    refine bodyPost_ret (v := .tuple #[bv, .int .i64 0]) (by simp [results, Tryz.results9, go_sem]) rfl ?_
    exact ⟨bv, rfl, A1.out, A4.out, A5.out⟩
end Go.Proofs.YthmopindibdhnaaGreatDoor.G
namespace Go.Proofs.YthmopindibdhnaaGreatDoor.G
open Go.RowKit Go.Shelf Go.Maps
theorem wextra : WhiteExtra Tryz.prog Tryz.lays157_ren where
  n6 := by kernel_rfl
  y6 := by kernel_rfl
  c3 := by kernel_rfl
  c49 := by kernel_rfl
  c193 := by kernel_rfl
  c194 := by kernel_rfl
  c196 := by kernel_rfl
  c198 := by kernel_rfl
theorem fields_of {W : World} (h : laidMet Tryz.prog [("unicode.White_Space", Rows.laid_unicode_White_Space), ("strings.asciiSpace", Rows.laid_strings_asciiSpace)] W) : ∀ W', Gr W W' → FieldsAt W' := by
  have r1 := Lib.laidMet.reads h (List.Mem.head _)
  have e1 : (Rows.laid_unicode_White_Space : DataW Unit) = Lib.whiteData := by kernel_rfl
  rw [e1] at r1
  have e2 : (Rows.laid_strings_asciiSpace : DataW Unit) = Lib.tabData .u8 Lib.asciiSpaceTab := by kernel_rfl
  have h2 := laidMet.tail h
  rw [e2] at h2
  exact fields_at (Lib.tabIs_of_head (g := 1) (t := 132) (e := 5) (n := 256) (by kernel_rfl) (by kernel_rfl) Tryz.underlying132 Tryz.underlying5 (by kernel_rfl) (by kernel_rfl) h2) (whiteTab_of_reads { Tryz.lays157 with } wextra r1)
end Go.Proofs.YthmopindibdhnaaGreatDoor.G
