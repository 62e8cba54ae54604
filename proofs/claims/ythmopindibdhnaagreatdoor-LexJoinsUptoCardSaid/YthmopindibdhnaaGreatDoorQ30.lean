import Derived.Test.YthmopindibdhnaaGreatDoorQ00
import Derived.Test.YthmopindibdhnaaGreatDoorQ29
import Derived.Deep.CutBlock
import Derived.Test.YthmopindibdhnaaGreatDoorQ08
import Derived.StillTailTactics
namespace Go.Proofs.YthmopindibdhnaaGreatDoor.G
open Go.RowKit Go.Shelf Go.Maps
variable {w w' : World} {P base : Nat} {s : ByteArray} {pv : Value} {at_ : Nat} {tv bv : Value} {tm : Bool} {ov : Value} {en : Nat} {sg : Bool} {G : Prop} {S : Src} {rt : List RTok} {tms : List Bool} {ops : List Nat} {ks : List Tok} {Y : Option (List RTok × List Bool)}
theorem keepI_but (k : But P w w') (hP : P < base) : KeepI base w w' := fun i cur hi hc => by
 rw [k.block i (Ag hc).1 (fun e => by have h1 : i = P := (by injection e); omega)]
 exact hc
theorem RSt.but {b : Nat} (h : RSt G w P base S at_ tm en rt tms ops ks s pv tv bv ov) (k : But P w w') (hsc : RSc w' P s pv b tv bv tm ov en (sgB rt tms)) : RSt G w' P base S b tm en rt tms ops ks s pv tv bv ov :=
 ⟨h.eq, hsc, own_but h.t k h.pb, own_but h.b k h.pb, h.o.keep (keepI_but k h.pb), own_but h.p k h.pb, h.lk, h.gs, h.le, h.tl, h.ap, h.pb, Nat.le_trans h.bw k.size⟩
def lefR (P : Nat) (w : World) : Nat := match w.cell? ⟨P, 0, none⟩, w.cell? ⟨P, 2, none⟩ with
 | some (.string s), some (.int _ c) => ((s.size : Int) - c).toNat
 | _, _ => 0
theorem RSt.lef (h : RSt G w P base S at_ tm en rt tms ops ks s pv tv bv ov) : lefR P w = S.length - at_ := by
 obtain ⟨c0, _, c2, _⟩ := h.sc.cells
 unfold lefR
 rw [c0, c2]
 have := h.size
 simp only
 omega
def PreL (G : Prop) (P base : Nat) (Y : Option (List RTok × List Bool)) (w : World) : Prop :=
 ∃ S b tm rt tms ops ks s pv tv bv ov f, RSt G w P base S b tm b rt tms ops ks s pv tv bv ov ∧ Y = scanS true (f + 1) (S.drop b) tm rt tms ops ∧ b ≤ S.length ∧ S.length - b ≤ f ∧ ops.length ≤ ks.length ∧ ks.length + (S.length - b) ≤ 4000
def AtL (G : Prop) (P base : Nat) (Y : Option (List RTok × List Bool)) (w : World) : Prop :=
 ∃ S a en tm rt tms ops ks s pv tv bv ov f, RSt G w P base S a tm en rt tms ops ks s pv tv bv ov ∧ Y = scanS true (f + 1) (S.drop en) tm rt tms ops ∧ S.drop a = skipS false (S.drop en) ∧ en ≤ a ∧ a ≤ S.length ∧ S.length - en ≤ f ∧ ops.length ≤ ks.length ∧ ks.length + (S.length - en) ≤ 4000
theorem pre_skip (h : PreL G P base Y w) : Calls Tryz.prog 34 #[.pointer (some ⟨P, 0, none⟩)] w fun e w' => e = .returned (.tuple #[]) ∧ AtL G P base Y w' ∧ But P w w' ∧ lefR P w' ≤ lefR P w := by
 obtain ⟨S, b, tm, rt, tms, ops, ks, s, pv, tv, bv, ov, f, h1, h2, h3, h4, h5, h6⟩ := h
 have hsz := h1.size
 have hle := h1.le
 refine (skip_r h1.sc S h1.eq (by omega) (by omega)).mono ?_
 rintro e w' ⟨a, rfl, k1, k2, k3, k4, k5⟩
 have R := h1.but k2 k1
 refine ⟨rfl, ⟨S, a, b, tm, rt, tms, ops, ks, s, pv, tv, bv, ov, f, R, h2, k5, k3, by omega, h4, h5, h6⟩, k2, ?_⟩
 rw [R.lef, h1.lef]
 omega
theorem brace_raw (t : RTok) (rt : List RTok) (tms : List Bool) (near : Bool) (ops : List Nat) : (braceS t rt tms near ops).1.raw = t.raw ∧ (braceS t rt tms near ops).2.length ≤ ops.length + 1 := by
 unfold braceS
 split
 ·exact ⟨rfl, by simp⟩
 ·split
  ·refine ⟨rfl, ?_⟩
   show ops.tail.length ≤ _
   rw [List.length_tail]; omega
  ·exact ⟨rfl, by show ops.length ≤ ops.length + 1; omega⟩
theorem scanS_end {R : Src} {f : Nat} (h : skipS false R = []) : scanS true (f + 1) R tm rt tms ops = some (rt, tms) := by rw [scanS, if_pos h]
theorem scanS_none {R : Src} {f : Nat} (h : skipS false R ≠ []) (h2 : nextS true (skipS false R) tm = none) : scanS true (f + 1) R tm rt tms ops = none := by rw [scanS, if_neg h, h2]
theorem scanS_some {R : Src} {f : Nat} {r : RTok × Src} (h : skipS false R ≠ []) (h2 : nextS true (skipS false R) tm = some r) (near : Bool) (hn : near = decide ((skipS false R).length = R.length)) : scanS true (f + 1) R tm rt tms ops = scanS true f r.2 (behindB (braceS r.1 rt tms near ops).1.kind (braceS r.1 rt tms near ops).1.raw (braceS r.1 rt tms near ops).1.opn tm) ((braceS r.1 rt tms near ops).1 :: rt) (tm :: tms) (braceS r.1 rt tms near ops).2 := by
 rw [scanS, if_neg h, h2, hn, (brace_raw _ _ _ _ _).1]
theorem at_next {f : Nat} (h1 : RSt G w P base S at_ tm en rt tms ops ks s pv tv bv ov) (h2 : Y = scanS true (f + 1) (S.drop en) tm rt tms ops) (h3 : S.drop at_ = skipS false (S.drop en)) (h4 : en ≤ at_) (hat : at_ < S.length) (h5 : S.length - en ≤ f) (h6 : ops.length ≤ ks.length) (h7 : ks.length + (S.length - en) ≤ 4000) :
  Calls Tryz.prog 35 #[.pointer (some ⟨P, 0, none⟩)] w fun e w' => (e = .returned (.bool false) ∧ Y = none ∧ Gr w w') ∨ (e = .returned (.bool true) ∧ PreL G P base Y w' ∧ Fr P base w w' ∧ lefR P w' < lefR P w) := by
 refine (next_r h1 hat (by omega) (by omega)).mono ?_
 intro e w' hc
 have hne : skipS false (S.drop en) ≠ [] := by
  rw [← h3]
  intro e
  have := congrArg List.length e
  rw [List.length_drop] at this
  simp at this
  omega
 have hnear : decide (en = at_) = decide ((skipS false (S.drop en)).length = (S.drop en).length) := by
  rw [← h3, List.length_drop, List.length_drop]
  congr 1
  exact propext ⟨fun e => by omega, fun e => by omega⟩
 cases hn : nextS true (S.drop at_) tm with
 | none =>
  rw [hn] at hc
  exact .inl ⟨hc.1, by rw [h2]; exact scanS_none hne (by rw [← h3]; exact hn), hc.2⟩
 | some r =>
  rw [hn] at hc
  obtain ⟨rfl, S', b, ⟨s', p', t', b', o', kk, k1, k2⟩, k3, k4, k5, k6⟩ := hc
  have hb := (brace_raw r.1 rt tms (decide (en = at_)) ops).2
  have hl : S'.length - b < S.length - at_ := by rw [← k3, List.length_drop] at k4; exact k4
  refine .inr ⟨rfl, ⟨S', b, _, _, _, _, _, s', p', t', b', o', f - 1, k1, ?_, k6, by omega, by simp; omega, by simp; omega⟩, k2, ?_⟩
  ·rw [h2, scanS_some hne (by rw [← h3]; exact hn) _ hnear, k3]
   rw [show f - 1 + 1 = f by omega]
  ·rw [k1.lef, h1.lef]
   exact hl
theorem Lks.map (hg : G) : ∀ {ks : List Tok} {rt : List RTok}, Lks G ks rt → ks = rt.map rend
 | [], [], _ => rfl
 | _ :: ks, _ :: rt, h => by rw [List.map_cons, h.1.own hg, Lks.map hg h.2]
 | [], _ :: _, h => h.elim
 | _ :: _, [], h => h.elim
theorem jok0 (l : List UInt8) : JOk l fun _ => none := jok_nil l
theorem rest_byt (l : List UInt8) : ∀ n a, l.length - a ≤ n → byt (rest l (fun _ => none) a) = l.drop a
 | 0, a, h => by rw [rest_nil (by omega), List.drop_eq_nil_of_le (by omega)]; rfl
 | n + 1, a, h => by
  by_cases ha : a < l.length
  ·rw [rest_cons (jok0 l) ha, List.drop_eq_getElem_cons ha, byt_cons, show nx (fun _ => none) a = a + 1 from rfl, rest_byt l n (a + 1) (by omega)]
  ·rw [rest_nil (by omega), List.drop_eq_nil_of_le (by omega)]; rfl
theorem src_byt (l : List UInt8) : byt (srcOf l) = l := by
 unfold srcOf
 rw [rest_byt l l.length 0 (by omega)]; rfl
theorem src_len (l : List UInt8) : (srcOf l).length = l.length := by rw [← byt_len, src_byt]
theorem rest_pl (l : List UInt8) : ∀ n a, l.length - a ≤ n → (rest l (fun _ => none) a).map Prod.fst = List.range' a (l.length - a)
 | 0, a, h => by rw [rest_nil (by omega), show l.length - a = 0 by omega]; rfl
 | n + 1, a, h => by
  by_cases ha : a < l.length
  ·rw [rest_cons (jok0 l) ha, List.map_cons, show nx (fun _ => none) a = a + 1 from rfl, rest_pl l n (a + 1) (by omega), show l.length - a = (l.length - (a + 1)) + 1 by omega, List.range'_succ]
  ·rw [rest_nil (by omega), show l.length - a = 0 by omega]; rfl
theorem src_pl (l : List UInt8) : (srcOf l).map (fun x => Value.int .i64 (x.1 : Int)) = (List.range l.length).map (fun (x : Nat) => Value.int .i64 (x : Int)) := by
 have h : (srcOf l).map Prod.fst = List.range l.length := by
  unfold srcOf
  rw [rest_pl l l.length 0 (by omega), List.range_eq_range']; rfl
 rw [← h, List.map_map]; rfl
theorem forN_own : ∀ l, forN l = l.length → ∀ c ∈ l, ownC c = true
 | [], _ => fun c hc => nomatch hc
 | c :: t, h => by
  rw [forN] at h
  split at h
  ·rename_i hc
   intro d hd
   rcases List.mem_cons.1 hd with rfl | hd
   ·exact hc
   ·exact forN_own t (by simpa using h) d hd
  ·simp at h
theorem forN_on {l : List UInt8} {i : Nat} (h : i < l.length) (hc : ownC l[i] = true) : forN (l.drop i) = forN (l.drop (i + 1)) + 1 := by rw [List.drop_eq_getElem_cons h, forN, if_pos hc]
theorem forN_stop {l : List UInt8} {i : Nat} (h : i < l.length) (hc : ownC l[i] = false) : forN (l.drop i) = 0 := by rw [List.drop_eq_getElem_cons h, forN, if_neg (by rw [hc]; decide)]
def ScanR (w : World) (X : Except Nat (List RTok × List Bool)) (e : Ending) (w' : World) : Prop :=
 match X with
 | .error n => (∃ p : Int, e = .returned (.tuple #[.slice none 0 0, .slice none 0 0, .int .i64 p, .int .i64 (n : Int)])) ∧ Gr w w'
 | .ok r => ∃ tv bv, e = .returned (.tuple #[tv, bv, .int .i64 (r.1.length : Nat), .int .i64 0]) ∧ OwnT w' w.heap.size tv (toksOf r.1) ∧ OwnB w' w.heap.size bv r.2.reverse ∧ r.2.length = r.1.length ∧ r.1.length ≤ 1000 ∧ Gr w w'
theorem at_end {f : Nat} (h1 : RSt G w P base S at_ tm en rt tms ops ks s pv tv bv ov) (h2 : Y = scanS true (f + 1) (S.drop en) tm rt tms ops) (h3 : S.drop at_ = skipS false (S.drop en)) (hat : S.length ≤ at_) : Y = some (rt, tms) ∧ ks.length = rt.length ∧ (G → OwnT w base tv (toksOf rt) ∧ OwnB w base bv tms.reverse) := by
 refine ⟨by rw [h2]; exact scanS_end (by rw [← h3]; exact List.drop_eq_nil_of_le hat), h1.lk.len, fun hg => ⟨?_, h1.b⟩⟩
 have := h1.t
 rw [h1.lk.map hg] at this
 exact this
end Go.Proofs.YthmopindibdhnaaGreatDoor.G
namespace Go.Proofs.YthmopindibdhnaaGreatDoor.G
open Go.RowKit Go.Shelf Go.Maps
variable {w w' : World} {P base : Nat} {s : ByteArray} {pv : Value} {at_ : Nat} {tv bv : Value} {tm : Bool} {ov : Value} {en : Nat} {sg : Bool} {G : Prop} {S : Src} {rt : List RTok} {tms : List Bool} {ops : List Nat} {ks : List Tok} {Y : Option (List RTok × List Bool)}
set_option maxRecDepth 100000 in
set_option maxHeartbeats 2000000 in
theorem scanr_large (hs : 4000 < s.size) (w : World) : Calls Tryz.prog 19 #[.string s] w (ScanR w (lexO true s.data.toList)) := by
 have hx : lexO true s.data.toList = .error 3 := by unfold lexO; rw [sizeL, if_pos hs]
 rw [hx]
 have hs1 : (s.size : Int) > 4000 := by omega
 clear hs hx
 go_enter Tryz.func19, Tryz.ntmps19
 go_wp2_with fail
 refine bodyPost_ret (v := .tuple #[.slice none 0 0, .slice none 0 0, .int .i64 0, .int .i64 3]) (by simp [results, Tryz.results19, go_sem]) rfl ?_
 exact ⟨⟨0, rfl⟩, Gr.refl w⟩
theorem min_val (a b : Int) : ∃ p : Int, p = min a b := ⟨_, rfl⟩
set_option maxRecDepth 100000 in
set_option maxHeartbeats 4000000 in
theorem scanr_g (hs : s.size ≤ 4000) (w : World) : Calls Tryz.prog 19 #[.string s] w (ScanR w (lexO true s.data.toList)) := by
 obtain ⟨l, hl⟩ : ∃ l, l = s.data.toList := ⟨_, rfl⟩
 have hsz : s.size = l.length := by rw [hl, ← sizeL]
 have Hsz := Lh hsz
 have HB := Lh (fun n (h : n < s.size) (h' : n < l.length) => (show s[n] = l[n] by subst hl; exact byteE s n h h'))
 have HI := Lh isByte_r
 have Hsrc : Hid (s.data.toList = byt (srcOf l)) := Lh (by rw [src_byt, hl])
 rw [← hl]
 obtain ⟨Y, hY⟩ : ∃ Y, Y = scanS true (l.length + 1) (srcOf l) true [] [] [] := ⟨_, rfl⟩
 have HY := Lh hY
 obtain ⟨fn, hfn⟩ : ∃ fn, fn = forN l := ⟨_, rfl⟩
 have HX : Hid (lexO true l = lexY s.size fn Y) := Lh (by
   unfold lexO; rw [if_neg (by omega), ← hY, hsz, ← hfn])
 have Hfn : Hid (fn ≤ s.size) := Lh (by rw [hsz, hfn]; exact forN_le _)
 have Hfd : Hid (fn = 0 + forN (l.drop 0)) := Lh (by rw [hfn]; simp)
 have HG : Hid (fn = s.size → ∀ c ∈ l, ownC c = true) := Lh (fun e => forN_own l (by rw [← hfn, ← hsz]; exact e))
 generalize lexO true l = X at *
 have hs1 : ¬ (s.size : Int) > 4000 := by omega
 have hs2 : decide ((4000 : Int) < (s.size : Int)) = false := by simp; omega
 have Hs := Lh hs
 clear hl hsz hY hfn
 go_enter Tryz.func19, Tryz.ntmps19
 go_upto_block 0 with fail
 go_cut [6] from 12 to 23 (fun iv wx => iv = .int .i64 (fn : Int) ∧ w = wx)
 case first =>
  go_wp2_with fail
  go_loopw [6] (fun iv wr => ∃ i : Nat, iv = .int .i64 (i : Int) ∧ i ≤ s.size ∧ Hid (fn = i + forN (l.drop i)) ∧ w = wr) (fun iv _ => leftTo s.size iv)
  case atStart => exact ⟨0, rfl, Nat.zero_le _, Hfd, rfl⟩
  case round =>
   obtain ⟨i, rfl, hi, hF, rfl⟩ := hrel
   clear Hfd
   by_cases hc : i < s.size
   ·have hci : (i : Int) < (s.size : Int) := by omega
    have hL : i < l.length := by rw [← Hsz.out]; exact hc
    have ex := HB.out i hc hL
    have hi1 : (i : Int) + 1 ≤ 9223372036854775807 := by omega
    have hi2 : -9223372036854775808 ≤ (i : Int) + 1 := by omega
    have hIb := Lh (fun w => HI.out (l[i].toNat : Int) w)
    cases hd : ownB (l[i].toNat : Int) with
    | true =>
     have HE : Hid (fn = (i + 1) + forN (l.drop (i + 1))) := Lh (by rw [hF.out, forN_on hL hd]; omega)
     rw [hd] at hIb
     have Hc := Lh hc
     clear hd hF HB HI
     generalize l[i] = y at *
     clear hL
     go_wp2_with (go_at_call 33; refine (hIb.out _).mono ?_; rintro e4 w4 ⟨rfl, rfl⟩)
     go_roundw
     case rel => exact ⟨i + 1, rfl, Hc.out, HE, by first | rfl | trivial⟩
     case measure => simp [leftTo]; omega
    | false =>
     have HE : Hid (fn = i) := Lh (by rw [hF.out, forN_stop hL hd]; omega)
     rw [hd] at hIb
     clear hd hF HB HI
     generalize l[i] = y at *
     clear hL
     go_wp2_with (go_at_call 33; refine (hIb.out _).mono ?_; rintro e4 w4 ⟨rfl, rfl⟩)
     go_meet
     exact ⟨by rw [HE.out], rfl⟩
   ·have hci : decide ((i : Int) < (s.size : Int)) = false := by simp; omega
    have hci2 : ¬ (i : Int) < (s.size : Int) := by omega
    have hci3 : decide (i < s.size) = false := decide_eq_false hc
    have HE : Hid (fn = i) := Lh (by rw [hF.out, List.drop_eq_nil_of_le (by rw [← Hsz.out]; omega)]; rfl)
    clear hF HB HI hc
    go_wp2_with fail
    go_meet
    exact ⟨by rw [HE.out], rfl⟩
 case rest =>
 obtain ⟨rfl, rfl⟩ := hcut
 clear Hfd HB HI
 go_wp2_with fail
 obtain ⟨P, hP⟩ : ∃ P, P = w.heap.size := ⟨_, rfl⟩
 generalize hW : w.alloc (.cells #[.string s, .slice none 0 0, .int .i64 0, .slice none 0 0, .slice none 0 0, .bool true, .slice none 0 0, .int .i64 0, .bool false] 66) = W1 at *
 have S1 : Hid (RSc W1 P s (.slice none 0 0) 0 (.slice none 0 0) (.slice none 0 0) true (.slice none 0 0) 0 false) := Lh ⟨by rw [← hW, hP]; exact heap_alloc_new w _⟩
 have G1 : Hid (Gr w W1) := Lh (by rw [← hW]; exact (Gr.refl w).alloc _)
 have Z1 : Hid (W1.heap.size = P + 1) := Lh (by rw [← hW, hP]; simp)
 rw [← hP]
 have HP := Lh hP
 have HGr : Hid (∀ W, Fr P (P + 1) W1 W → Gr w W) := Lh (fun W h => ⟨h.os.trans G1.out.os, h.tape.trans G1.out.tape, h.output.trans G1.out.output, Nat.le_trans G1.out.size h.size, fun k hk => (h.block k (by omega) (by omega)).trans (G1.out.block k hk)⟩)
 clear hW hP
 go_loopw [8] (fun iv wr => ∃ (i : Nat) (pv : Value), iv = .int .i64 (i : Int) ∧ i ≤ s.size ∧ Hid (RSc wr P s pv 0 (.slice none 0 0) (.slice none 0 0) true (.slice none 0 0) 0 false) ∧ Hid (OwnI wr (P + 1) pv (List.range i)) ∧ Hid (Fr P (P + 1) W1 wr)) (fun iv _ => leftTo s.size iv)
 case atStart => exact ⟨0, .slice none 0 0, rfl, Nat.zero_le _, S1, Lh ⟨by simp, .inl ⟨rfl, rfl⟩⟩, Lh (Fr.refl _ _ _)⟩
 case round =>
  obtain ⟨i, pv, rfl, hi, SR, OR, FR⟩ := hrel
  by_cases hc : i < s.size
  ·have hci : (i : Int) < (s.size : Int) := by omega
   have hi1 : (i : Int) + 1 ≤ 9223372036854775807 := by omega
   have hi2 : -9223372036854775808 ≤ (i : Int) + 1 := by omega
   have Hc := Lh hc
   obtain ⟨c0, c1, c2, c3, c4, c5, c6, c7, c8, cf⟩ := SR.out.cells
   have hbw : P + 1 ≤ wr.heap.size := by have := FR.out.size; have := Z1.out; omega
   have Hbw := Lh hbw
   obtain ⟨_, b1, _, _, _, _, _, _, _, _⟩ := (SR.out.gr ((Gr.refl wr).alloc (.cells #[.int .i64 (i : Int)] 3))).cells
   obtain ⟨i0, hi0, hz0, hz1, hz2⟩ := info_parts infoInt
   have hrl : (List.range i).length = i := List.length_range
   have Hrl := Lh hrl
   have hOwn : wr.ownsRow (P + 1) 3 1 pv i ((List.range i).map fun (x : Nat) => Value.int .i64 (x : Int)) := by
    have := OR.out
    unfold OwnI at this
    rw [hrl] at this
    exact this
   have HOwn := Lh hOwn
   have hi4 : i ≤ 4000 := by have := Hs.out; omega
   clear hc hbw hrl hOwn OR hi
   go_wp2_with (at_builtin; refine wpList_append_own _ rfl (.tmp 37) (.tmp 39) 48 rfl (P + 1) 3 i0 (.int .i64 0) 1 8 Tryz.underlying48 hi0 hz0 hz1 hz2 rfl (by decide) _ _ _ rfl (ownsRow_gr HOwn.out ((Gr.refl wr).alloc _)) ⟨wr.heap.size, 0, none⟩ 1 1 [.int .i64 (i : Int)] rfl rfl ?c1 ?c2 ?c3 ?c4 ?c5 ?_)
   case c1 => exact fun j u hj => newCellsAt (by simp) hj
   case c2 => intro u hu; simp at hu; subst hu; rfl
   case c3 => unfold maxLen; omega
   case c4 => omega
   case c5 => have := Hbw.out; simp; omega
   intro v' w1 hown' hgrow _
   have GX : Gr wr (wr.alloc (.cells #[.int .i64 (i : Int)] 3)) := (Gr.refl wr).alloc _
   have hP1 : pv.ownBlock ≠ some P := own_apart HOwn.out (.inl (Nat.lt_succ_self _))
   have hP2 : some P ≠ v'.ownBlock := fun e => own_apart hown' (.inl (Nat.lt_succ_self _)) e.symm
   have S4 := Lh ((SR.out.gr GX).grown hgrow hP1)
   have HO4 : Hid (OwnI (w1.setCell ⟨P, 1, none⟩ v') (P + 1) v' (List.range (i + 1))) := Lh (by
    unfold OwnI
    rw [List.range_succ, List.length_append, List.map_append, Hrl.out]
    exact own_set hown' hP2 1 v')
   have HF4 : Hid (Fr P (P + 1) W1 (w1.setCell ⟨P, 1, none⟩ v')) := Lh (Fr.but (Fr.grow (Fr.but FR.out (But.of_gr GX) Hbw.out) hgrow (Nat.le_trans Hbw.out GX.size) (fun i e => (own_ge HOwn.out e).1)) (But.set (P := P) 1 v') (Nat.le_trans Hbw.out (Nat.le_trans GX.size hgrow.size)))
   obtain ⟨m0, hm0⟩ : ∃ m0, m0 = i + 1 := ⟨_, rfl⟩
   obtain ⟨ao, cap, hv⟩ := ownsRow_shape hown'
   rw [← hm0] at hv
   subst hv
   clear hm0 hown' hgrow GX hP1 hP2 c0 c1 c2 c3 c4 c5 c6 c7 c8 cf b1 hi0 hz0 hz1 hz2 hi4 hs1 hs2
   obtain ⟨c0, c1, c2, c3, c4, c5, c6, c7, c8, cf⟩ := S4.out.cells
   go_wp2_with fail
   go_roundw
   case rel => exact ⟨i + 1, _, rfl, Hc.out, Lh (S4.out.setPv _), HO4, HF4⟩
   case measure => simp [leftTo]; have := Hc.out; omega
  ·have hie : i = s.size := by omega
   have hci : decide ((i : Int) < (s.size : Int)) = false := by simp; omega
   have hci2 : ¬ (i : Int) < (s.size : Int) := by omega
   have hci3 : decide (i < s.size) = false := decide_eq_false hc
   have hbw : P + 1 ≤ wr.heap.size := by have := FR.out.size; have := Z1.out; omega
   have Hbw := Lh hbw
   have R0 : RSt (fn = s.size) wr P (P + 1) (srcOf l) 0 true 0 [] [] [] [] s pv (.slice none 0 0) (.slice none 0 0) (.slice none 0 0) :=
    ⟨Hsrc.out, SR.out, ⟨by simp [cellsT], .inl ⟨rfl, rfl⟩⟩, ⟨by simp, .inl ⟨rfl, rfl⟩⟩, .inl ⟨by simp, .inl ⟨rfl, rfl⟩⟩, by
     have h1 := OR.out
     show World.ownsRow _ _ _ _ _ _ _
     rw [src_len, src_pl, ← Hsz.out, ← hie]
     have h2 : (List.range i).length = i := List.length_range
     unfold OwnI at h1
     rw [h2] at h1
     exact h1, trivial, fun e c hc => HG.out e c (by rw [src_byt] at hc; exact hc), by rw [src_len, ← Hsz.out]; exact Hs.out, rfl, (fun i h => by cases h), Nat.lt_succ_self _, hbw⟩
   have hpre : PreL (fn = s.size) P (P + 1) Y wr := ⟨srcOf l, 0, true, [], [], [], [], s, pv, _, _, _, l.length, R0, HY.out, Nat.zero_le _, by rw [src_len]; omega, Nat.le_refl _, by rw [src_len, ← Hsz.out]; have := Hs.out; simpa using this⟩
   have HPre := Lh hpre
   clear hpre R0 hc hie hbw
   go_wp2_with fail
   refine (pre_skip HPre.out).mono ?_
   rintro e2 w2 ⟨rfl, hA, hB, _⟩
   have HA := Lh hA
   have HF2 := Lh (FR.out.but hB Hbw.out)
   clear hA hB HPre
   go_wp2_with fail
   go_loopw [] (fun wz => Hid (AtL (fn = s.size) P (P + 1) Y wz) ∧ Hid (Fr P (P + 1) W1 wz)) (fun wz => lefR P wz)
   case atStart => exact ⟨HA, HF2⟩
   case round =>
    obtain ⟨AL, FL⟩ := hrel
    clear HA HF2
    obtain ⟨S, a, en, tm, rt, tms, ops, ks, s2, pv2, tv, bv, ov, f, h1, h2, h3, h4, h5, h6, h7, h8⟩ := AL.out
    have HR := Lh h1
    have hs2 := h1.size
    have Hbw2 : Hid (P + 1 ≤ wr.heap.size) := Lh h1.bw
    obtain ⟨c0, c1, c2, c3, c4, c5, c6, c7, c8, cf⟩ := h1.sc.cells
    by_cases hc : a < S.length
    ·have hci4 : (a : Int) < (s2.size : Int) := by omega
     have HN := Lh (fun W (gW : Gr wr W) => at_next (h1.gr gW) h2 h3 h4 hc h6 h7 h8)
     have HLf := Lh (fun W (gW : Gr wr W) => (show lefR P W = lefR P wr by rw [(h1.gr gW).lef, h1.lef]))
     obtain ⟨gp, capp, hpv, hgp, hgps, hcapp, hpc⟩ := own_cell h1.p (by omega)
     subst hpv
     obtain ⟨pl, hpl⟩ : ∃ pl, pl = S[a].1 := ⟨_, rfl⟩
     have pc0 : wr.cell? ⟨gp, a, none⟩ = some (.int .i64 (pl : Int)) := hpc _ _ (by rw [List.getElem?_map, List.getElem?_eq_getElem hc, hpl]; rfl)
     have Hpc := Lh pc0
     have hSi : (a : Int) < (S.length : Int) := by omega
     clear h1 h2 h3 h4 h5 h6 h7 h8 hpl hpc pc0 hgp hgps hcapp hc hs2 AL
     go_wp2_with fail
     go_quiet (fail)
     have G2 : Hid (Gr wr (wr.drewN nq)) := Lh ((Gr.refl wr).drewN _)
     generalize wr.drewN nq = W2 at *
     go_wp2_with fail
     refine (HN.out W2 G2.out).mono ?_
     rintro e3 w3 (⟨rfl, hy, g3⟩ | ⟨rfl, hpre3, f3, hl3⟩)
     ·have G3 := Lh (G2.out.trans g3)
      have hx : X = .error 2 := by rw [HX.out, hy]; rfl
      subst hx
      clear g3 c0 c1 c2 c3 c4 c5 c6 c7 c8 cf hy
      obtain ⟨c0, c1, c2, c3, c4, c5, c6, c7, c8, cf⟩ := (HR.out.sc.gr G3.out).cells
      have pc0 := cell_keep G3.out Hpc.out
      go_wp2_with fail
      go_region
      all_goals
       go_wp2_with fail
       refine bodyPost_ret (v := .tuple #[.slice none 0 0, .slice none 0 0, .int .i64 (min (fn : Int) (pl : Int)), .int .i64 2]) (by simp [results, Tryz.results19, go_sem]) rfl ?_
       exact ⟨⟨_, rfl⟩, ((HGr.out wr FL.out).trans G3.out).drewN _⟩
     ·have HP3 := Lh hpre3
      have F3 := Lh ((FL.out.trans (Fr.of_but (But.of_gr G2.out) Hbw2.out)).trans f3)
      have L3 := Lh hl3
      clear hpre3 f3 hl3 c0 c1 c2 c3 c4 c5 c6 c7 c8 cf
      go_wp2_with fail
      refine (pre_skip HP3.out).mono ?_
      rintro e4 w4 ⟨rfl, hA4, hB4, hl4⟩
      have HA4 := Lh hA4
      have F4 := Lh (F3.out.but hB4 (Nat.le_trans (by have := Z1.out; omega) F3.out.size))
      have L4 := Lh hl4
      clear hA4 hB4 hl4
      go_wp2_with fail
      go_roundw
      case rel => exact ⟨HA4, F4⟩
      case measure =>
       have := L3.out
       have := L4.out
       have := HLf.out W2 G2.out
       omega
    ·have hci4 : decide ((a : Int) < (s2.size : Int)) = false := by simp; omega
     have hci5 : ¬ (a : Int) < (s2.size : Int) := by omega
     have hci6 : decide (a < s2.size) = false := decide_eq_false (by omega)
     obtain ⟨hYe, hkl, hrows⟩ := at_end h1 h2 h3 (by omega)
     have HYe := Lh hYe
     have Hkl := Lh hkl
     have Hrows := Lh hrows
     have Htl := Lh h1.tl
     obtain ⟨ao, cap, htv⟩ := ownsRow_shape h1.t
     subst htv
     clear h1 h2 h3 h4 h5 h6 h7 h8 hYe hkl hrows hc hs2 AL
     go_wp2_with fail
     go_quiet (fail)
     have G2 : Hid (Gr wr (wr.drewN nq)) := Lh ((Gr.refl wr).drewN _)
     generalize wr.drewN nq = W2 at *
     clear c0 c1 c2 c3 c4 c5 c6 c7 c8 cf
     obtain ⟨c0, c1, c2, c3, c4, c5, c6, c7, c8, cf⟩ := (HR.out.sc.gr G2.out).cells
     have Gf : Hid (Gr w W2) := Lh ((HGr.out wr FL.out).trans G2.out)
     by_cases hf : fn < s.size
     ·have hx : X = .error 2 := by rw [HX.out, HYe.out, lexY_some, if_pos hf]
      subst hx
      have hfi : (fn : Int) < (s.size : Int) := by omega
      clear hf
      go_wp2_with fail
      refine bodyPost_ret (v := .tuple #[.slice none 0 0, .slice none 0 0, .int .i64 (fn : Int), .int .i64 2]) (by simp [results, Tryz.results19, go_sem]) rfl ?_
      exact ⟨⟨_, rfl⟩, Gf.out⟩
     ·have hfe : fn = s.size := by have := Hfn.out; omega
      have hf1 : decide ((fn : Int) < (s.size : Int)) = false := by simp; omega
      have hf2 : ¬ (fn : Int) < (s.size : Int) := by omega
      have hf3 : decide (fn < s.size) = false := decide_eq_false hf
      obtain ⟨n, hn⟩ : ∃ n, n = ks.reverse.length := ⟨_, rfl⟩
      have hnr : n = rt.length := by rw [hn, List.length_reverse]; exact Hkl.out
      have Hnr := Lh hnr
      rw [← hn] at c3
      by_cases hb : 1000 < n
      ·have hx : X = .error 3 := by rw [HX.out, HYe.out, lexY_some, if_neg hf, if_pos (by show 1000 < rt.length; omega)]
       subst hx
       have hbi : (n : Int) > 1000 := by omega
       clear hf hfe hn hnr hb
       go_wp2_with fail
       refine bodyPost_ret (v := .tuple #[.slice none 0 0, .slice none 0 0, .int .i64 0, .int .i64 3]) (by simp [results, Tryz.results19, go_sem]) rfl ?_
       exact ⟨⟨_, rfl⟩, Gf.out⟩
      ·have hx : X = .ok (rt, tms) := by rw [HX.out, HYe.out, lexY_some, if_neg hf, if_neg (by show ¬ 1000 < rt.length; omega)]
       subst hx
       have hbi : ¬ (n : Int) > 1000 := by omega
       have hbi2 : decide ((1000 : Int) < (n : Int)) = false := decide_eq_false (by omega)
       have hbi3 : decide (1000 < n) = false := decide_eq_false hb
       obtain ⟨o1, o2⟩ := Hrows.out hfe
       have O1 := Lh o1
       have O2 := Lh o2
       have Hb := Lh (show rt.length ≤ 1000 by omega)
       rw [← hn] at O1
       clear hf hfe hn hnr hb o1 o2
       go_wp2_with fail
       go_quiet (fail)
       go_wp2_with fail
       refine bodyPost_ret (v := .tuple #[.slice ao n cap, bv, .int .i64 (n : Int), .int .i64 0]) (by simp [results, Tryz.results19, go_sem]) rfl ?_
       refine ⟨.slice ao n cap, bv, by rw [Hnr.out], own_mono (ownsRow_gr O1.out (G2.out.drewN _)) (by rw [HP.out]; omega), own_mono (ownsRow_gr O2.out (G2.out.drewN _)) (by rw [HP.out]; omega), Htl.out, Hb.out, Gf.out.drewN _⟩
end Go.Proofs.YthmopindibdhnaaGreatDoor.G
namespace Go.Proofs.YthmopindibdhnaaGreatDoor.G
open Go.RowKit Go.Shelf Go.Maps
theorem scan_ra (s : ByteArray) (w : World) : Calls Tryz.prog 19 #[.string s] w (ScanR w (lexO true s.data.toList)) := by
 by_cases h : 4000 < s.size
 ·exact scanr_large h w
 ·exact scanr_g (by omega) w
def LexR (w : World) (X : Except Nat (List RTok × List Bool)) (e : Ending) (w' : World) : Prop :=
 match X with
 | .error n => (∃ p : Int, e = .returned (.tuple #[.slice none 0 0, .int .i64 p, .int .i64 (n : Int)])) ∧ Gr w w'
 | .ok r => ∃ tv, e = .returned (.tuple #[tv, .int .i64 (r.1.length : Nat), .int .i64 0]) ∧ OwnT w' w.heap.size tv (toksOf r.1) ∧ r.1.length ≤ 1000 ∧ Gr w w'
set_option maxRecDepth 100000 in
set_option maxHeartbeats 2000000 in
theorem lex_r (s : ByteArray) (w : World) : Calls Tryz.prog 25 #[.string s] w (LexR w (lexO true s.data.toList)) := by
 have HF := Lh (scan_ra s w)
 generalize lexO true s.data.toList = X at *
 cases X with
 | error n =>
  go_enter Tryz.func25, Tryz.ntmps25
  go_wp2_with fail
  refine (HF.out).mono ?_
  rintro e w3 ⟨⟨p, rfl⟩, g3⟩
  have G3 := Lh g3
  clear g3
  go_wp2_with fail
  refine bodyPost_ret (v := .tuple #[.slice none 0 0, .int .i64 p, .int .i64 (n : Int)]) (by simp [results, Tryz.results25, go_sem]) rfl ?_
  exact ⟨⟨p, rfl⟩, G3.out⟩
 | ok r =>
  go_enter Tryz.func25, Tryz.ntmps25
  go_wp2_with fail
  refine (HF.out).mono ?_
  rintro e w3 ⟨tv, bv, rfl, a1, a2, a3, a4, a5⟩
  have A1 := Lh a1
  have A4 := Lh a4
  have A5 := Lh a5
  clear a1 a2 a3 a4 a5
  go_wp2_with fail
  refine bodyPost_ret (v := .tuple #[tv, .int .i64 (r.1.length : Nat), .int .i64 0]) (by simp [results, Tryz.results25, go_sem]) rfl ?_
  exact ⟨tv, rfl, A1.out, A4.out, A5.out⟩
set_option maxRecDepth 100000 in
set_option maxHeartbeats 2000000 in
theorem terms_r (s : ByteArray) (w : World) : Calls Tryz.prog 9 #[.string s] w (TermsP w (lexO true s.data.toList)) := by
 have HF := Lh (scan_ra s w)
 generalize lexO true s.data.toList = X at *
 cases X with
 | error n =>
  go_enter Tryz.func9, Tryz.ntmps9
  go_wp2_with fail
  refine (HF.out).mono ?_
  rintro e w3 ⟨⟨p, rfl⟩, g3⟩
  have G3 := Lh g3
  clear g3
  go_wp2_with fail
  refine bodyPost_ret (v := .tuple #[.slice none 0 0, .int .i64 (n : Int)]) (by simp [results, Tryz.results9, go_sem]) rfl ?_
  exact ⟨rfl, G3.out⟩
 | ok r =>
  go_enter Tryz.func9, Tryz.ntmps9
  go_wp2_with fail
  refine (HF.out).mono ?_
  rintro e w3 ⟨tv, bv, rfl, a1, a2, a3, a4, a5⟩
  have A1 := Lh a2
  have A4 := Lh (show r.2.length ≤ 1000 by omega)
  have A5 := Lh a5
  clear a1 a2 a3 a4 a5
  go_wp2_with fail
  refine bodyPost_ret (v := .tuple #[bv, .int .i64 0]) (by simp [results, Tryz.results9, go_sem]) rfl ?_
  exact ⟨bv, rfl, A1.out, A4.out, A5.out⟩
end Go.Proofs.YthmopindibdhnaaGreatDoor.G
namespace Go.Proofs.YthmopindibdhnaaGreatDoor.G
open Go.RowKit Go.Shelf Go.Maps
def escGC (z : List UInt8) (c : UInt8) : List UInt8 := if z.contains c = true then [92, c] else [c]
def escG (z l : List UInt8) : List UInt8 := l.flatMap (escGC z)
section
variable {l : List UInt8} {i : Nat}
theorem escG_step (z : List UInt8) (h : i < l.length) : escG z (l.take (i + 1)) = escG z (l.take i) ++ escGC z l[i] := by
 rw [List.take_add_one, List.getElem?_eq_getElem h]
 simp only [escG, Option.toList, List.flatMap_append, List.flatMap_cons, List.flatMap_nil, List.append_nil]
theorem escGC_len (z : List UInt8) (c : UInt8) : (escGC z c).length ≤ 2 := by unfold escGC; split <;> simp
theorem escG_len (z l : List UInt8) : (escG z l).length ≤ 2 * l.length := by
 unfold escG
 induction l with
 | nil => simp
 | cons c t ih => rw [List.flatMap_cons, List.length_append, List.length_cons]; have := escGC_len z c; omega
theorem idxG (z : List UInt8) (c : UInt8) : decide (0 ≤ Lib.indexByte z (c.toNat : Int).toNat.toUInt8) = z.contains c := by
 have e : (c.toNat : Int).toNat.toUInt8 = c := by simp
 rw [e]
 induction z with
 | nil => rfl
 | cons b t ih =>
  have hg := Lib.indexByte_ge t c
  unfold Lib.indexByte
  rw [List.contains_cons, ← ih]
  by_cases hb : b = c
  ·subst hb; simp
  ·have h1 : (b == c) = false := by simpa using hb
   have h2 : (c == b) = false := by simpa using fun e : c = b => hb e.symm
   rw [h1, h2]
   simp only [Bool.false_eq_true, if_false, Bool.false_or]
   by_cases hm : Lib.indexByte t c = -1
   ·rw [hm]; rfl
   ·have h3 : (Lib.indexByte t c == -1) = false := by simpa using hm
    rw [h3]
    simp only [Bool.false_eq_true, if_false]
    congr 1
    exact propext ⟨fun h => by omega, fun h => by omega⟩
def preG (z : List UInt8) (x : UInt8) (k : Nat) : List UInt8 := if (z.take k).contains x = true then [92] else []
theorem preG_len (z : List UInt8) (x : UInt8) (k : Nat) : (preG z x k).length ≤ 1 := by unfold preG; split <;> simp
theorem preG_off {z : List UInt8} {x : UInt8} {k : Nat} (h : k < z.length) (hx : x ≠ z[k]) : preG z x (k + 1) = preG z x k := by
 have e : (z.take (k + 1)).contains x = (z.take k).contains x := by
  rw [List.take_succ_eq_append_getElem h]
  cases hc : (z.take k).contains x with
  | true =>
   rw [List.contains_iff_mem] at hc ⊢
   exact List.mem_append_left _ hc
  | false =>
   cases hd : (z.take k ++ [z[k]]).contains x with
   | false => rfl
   | true =>
    rw [List.contains_iff_mem, List.mem_append, List.mem_singleton] at hd
    rcases hd with hd | hd
    ·rw [← List.contains_iff_mem, hc] at hd; cases hd
    ·exact absurd hd hx
 unfold preG
 rw [e]
theorem preG_on {z : List UInt8} {x : UInt8} {k : Nat} (hd : z.Nodup) (h : k < z.length) (hx : x = z[k]) : preG z x (k + 1) = preG z x k ++ [92] := by
 have h1 : (z.take k).contains x = false := by
  cases hc : (z.take k).contains x with
  | false => rfl
  | true =>
   exfalso
   rw [List.contains_iff_mem] at hc
   have hn := List.Nodup.sublist (List.take_sublist (k + 1) z) hd
   rw [List.take_succ_eq_append_getElem h, List.nodup_append] at hn
   exact hn.2.2 x hc x (by rw [hx]; exact List.mem_singleton.2 rfl) rfl
 have h2 : (z.take (k + 1)).contains x = true := by
  rw [List.contains_iff_mem, List.take_succ_eq_append_getElem h, hx]
  exact List.mem_append_right _ (List.mem_singleton.2 rfl)
 unfold preG
 rw [h1, h2]
 rfl
theorem preG_all (z : List UInt8) (x : UInt8) (k : Nat) (h : z.length ≤ k) : escGC z x = preG z x k ++ [x] := by
 unfold escGC preG
 rw [List.take_of_length_le h]
 cases z.contains x <;> rfl
end
section
variable {l : List UInt8} {i : Nat}
set_option maxRecDepth 100000 in
set_option maxHeartbeats 1000000 in
theorem escG_p (z s : ByteArray) (hs : s.size ≤ 1000000) (w : World) :
  Calls Tryz.prog 63 #[.string s, .string z] w fun e w' => e = .returned (.string (ba (escG z.data.toList s.data.toList))) ∧ Gr w w' := by
 obtain ⟨l, hl⟩ : ∃ l, l = s.data.toList := ⟨_, rfl⟩
 have hsz : s.size = l.length := by rw [hl, ← sizeL]
 have HB := Lh (fun n (h : n < s.size) (h' : n < l.length) => (show s[n] = l[n] by subst hl; exact byteE s n h h'))
 have HI := Lh (fun x w => idx_any z x w)
 obtain ⟨zl, hzl⟩ : ∃ zl, zl = z.data.toList := ⟨_, rfl⟩
 rw [← hzl] at HI ⊢
 clear hzl
 rw [← hl]
 obtain ⟨R, hR⟩ : ∃ R, R = escG zl l := ⟨_, rfl⟩
 rw [← hR]
 have HR := Lh hR
 have Hsz := Lh hsz
 clear hl hsz hR
 go_enter Tryz.func63, Tryz.ntmps63
 go_wp2_with fail
 generalize hW : w.alloc (.cells #[.pointer none, .slice none 0 0] 74) = W1
 have G1 : Hid (Gr w W1) := Lh (by rw [← hW]; exact (Gr.refl w).alloc _)
 have hBl : Hid (Bld w.heap.size [] W1) := Lh (by rw [← hW]; exact bld_new w)
 have hsz1 : Hid (W1.heap.size = w.heap.size + 1) := Lh (by rw [← hW]; simp)
 clear hW
 go_loopw [6, 9] (fun _ iv wr => ∃ i : Nat, iv = .int .i64 (i : Int) ∧ i ≤ s.size ∧ Bld w.heap.size (escG zl (l.take i)) wr ∧ Gr w wr ∧ w.heap.size + 1 ≤ wr.heap.size) (fun _ iv _ => leftTo s.size iv)
 case atStart => exact ⟨0, rfl, Nat.zero_le _, hBl.out, G1.out, by rw [hsz1.out]; exact Nat.le_refl _⟩
 case round =>
  obtain ⟨i, rfl, hi, hB, hG, hZ⟩ := hrel
  have Bl := Lh hB
  have Gg := Lh hG
  have Z := Lh hZ
  clear hB hG hZ hBl hsz1 G1
  by_cases hc : i < s.size
  ·have hci : (i : Int) < (s.size : Int) := by omega
   have hL : i < l.length := by rw [← Hsz.out]; exact hc
   have ex := HB.out i hc hL
   have hst := Lh (escG_step zl hL)
   have hi1 : (i : Int) + 1 ≤ 9223372036854775807 := by omega
   have hi2 : -9223372036854775808 ≤ (i : Int) + 1 := by omega
   have hln : Hid ((escG zl (l.take i)).length ≤ 2000000) := Lh (by have := escG_len zl (l.take i); rw [List.length_take] at this; omega)
   have hI := Lh (fun w => HI.out (l[i].toNat : Int) w)
   have hq := idxG zl l[i]
   generalize l[i] = x at *
   generalize Lib.indexByte zl (x.toNat : Int).toNat.toUInt8 = r at *
   by_cases hx : zl.contains x = true
   ·have hE : Hid (escGC zl x = [92, x]) := Lh (by unfold escGC; rw [if_pos hx])
    have tr : (0 : Int) ≤ r := by rw [hx] at hq; exact of_decide_eq_true hq
    clear hq hx HB HI hL
    go_wp2_with fail
    refine (hI.out _).mono ?_
    rintro e w1 ⟨rfl, rfl⟩
    go_wp2_with fail
    refine (bld_byte 92 Bl.out (by have := hln.out; omega) (by have := Z.out; omega)).mono ?_
    rintro e w2 ⟨rfl, hl2, hb2, _⟩
    have B2 := Lh hl2
    have G2 := Lh (Gr.below' Gg.out hb2)
    have Z2 : Hid (w.heap.size + 1 ≤ w2.heap.size) := Lh (Nat.le_trans Z.out hb2.size)
    clear hl2 hb2 Bl Gg Z
    go_wp2_with fail
    refine (bld_byte x B2.out (by have := hln.out; simp; omega) (by have := Z2.out; omega)).mono ?_
    rintro e w3 ⟨rfl, hl3, hb3, _⟩
    have B3 := Lh hl3
    have G3 := Lh (Gr.below' G2.out hb3)
    have Z3 : Hid (w.heap.size + 1 ≤ w3.heap.size) := Lh (Nat.le_trans Z2.out hb3.size)
    clear hl3 hb3 B2 G2 Z2
    go_wp2_with fail
    go_roundw
    case rel => exact ⟨i + 1, rfl, hc, by rw [hst.out, hE.out]; simpa using B3.out, G3.out, Z3.out⟩
    case measure => simp only [leftTo]; omega
   ·have hE : Hid (escGC zl x = [x]) := Lh (by unfold escGC; rw [if_neg hx])
    have tr : decide ((0 : Int) ≤ r) = false := by rw [hq]; simpa using hx
    clear hq hx HB HI hL
    go_wp2_with fail
    refine (hI.out _).mono ?_
    rintro e w1 ⟨rfl, rfl⟩
    go_wp2_with fail
    refine (bld_byte x Bl.out (by have := hln.out; omega) (by have := Z.out; omega)).mono ?_
    rintro e w3 ⟨rfl, hl3, hb3, _⟩
    have B3 := Lh hl3
    have G3 := Lh (Gr.below' Gg.out hb3)
    have Z3 : Hid (w.heap.size + 1 ≤ w3.heap.size) := Lh (Nat.le_trans Z.out hb3.size)
    clear hl3 hb3 Bl Gg Z
    go_wp2_with fail
    go_roundw
    case rel => exact ⟨i + 1, rfl, hc, by rw [hst.out, hE.out]; simpa using B3.out, G3.out, Z3.out⟩
    case measure => simp only [leftTo]; omega
  ·have hci : decide ((i : Int) < (s.size : Int)) = false := by simp; omega
   have hci' : decide (i < s.size) = false := by simp; omega
   have E : Hid (R = escG zl (l.take i)) := Lh (by rw [HR.out, List.take_of_length_le (by have := Hsz.out; omega)])
   clear HB HI hc
   go_wp2_with fail
   refine (bld_text Bl.out (by have := Z.out; omega)).mono ?_
   rintro e2 w3 ⟨rfl, hb3⟩
   have G3 := Lh (Gr.below' Gg.out hb3)
   clear hb3
   go_wp2
   go_ret
   exact ⟨by rw [E.out]; rfl, G3.out⟩
set_option maxRecDepth 100000 in
set_option maxHeartbeats 2000000 in
theorem escG_r (z s : ByteArray) (hs : s.size ≤ 1000000) (hz : z.size ≤ 10) (hzd : z.data.toList.Nodup) (w : World) :
  Calls Tryz.prog 38 #[.string s, .string z] w fun e w' => e = .returned (.string (ba (escG z.data.toList s.data.toList))) ∧ Gr w w' := by
 obtain ⟨l, hl⟩ : ∃ l, l = s.data.toList := ⟨_, rfl⟩
 have hsz : s.size = l.length := by rw [hl, ← sizeL]
 have HB := Lh (fun n (h : n < s.size) (h' : n < l.length) => (show s[n] = l[n] by subst hl; exact byteE s n h h'))
 have HX := Lh (fun n (h' : n < l.length) => (show (s.extract n (n + 1)).data.toList = [l[n]] by
  subst hl; rw [extractE, List.drop_eq_getElem_cons h']; simp))
 obtain ⟨zl, hzl⟩ : ∃ zl, zl = z.data.toList := ⟨_, rfl⟩
 have hzs : z.size = zl.length := by rw [hzl, ← sizeL]
 have HZ := Lh (fun n (h : n < z.size) (h' : n < zl.length) => (show z[n] = zl[n] by subst hzl; exact byteE z n h h'))
 rw [← hzl] at hzd ⊢
 have Hzs := Lh hzs
 have Hzd := Lh hzd
 have Hz10 := Lh hz
 clear hzl hzs hzd hz
 rw [← hl]
 obtain ⟨R, hR⟩ : ∃ R : ByteArray, R = ba (escG zl l) := ⟨_, rfl⟩
 rw [← hR]
 have HR : Hid (R.data.toList = escG zl l) := Lh (by rw [hR, ba_data])
 have Hsz := Lh hsz
 clear hl hsz hR
 go_enter Tryz.func38, Tryz.ntmps38
 go_wp2_with fail
 go_loopw [5, 6, 7] (fun ov iv _ wr => ∃ (i : Nat) (o : ByteArray), iv = .int .i64 (i : Int) ∧ ov = .string o ∧ i ≤ s.size ∧ Hid (o.data.toList = escG zl (l.take i)) ∧ Gr w wr) (fun _ iv _ _ => leftTo s.size iv)
 case atStart => exact ⟨0, _, rfl, rfl, Nat.zero_le _, Lh rfl, Gr.refl w⟩
 case round =>
  obtain ⟨i, o, rfl, rfl, hi, hO, hG⟩ := hrel
  have Gg := Lh hG
  clear hG
  by_cases hc : i < s.size
  ·have hci : (i : Int) < (s.size : Int) := by omega
   have hL : i < l.length := by rw [← Hsz.out]; exact hc
   have ex := HB.out i hc hL
   have hst := Lh (escG_step zl hL)
   have hX := Lh (HX.out i hL)
   have hi1 : (i : Int) + 1 ≤ 9223372036854775807 := by omega
   have hi2 : -9223372036854775808 ≤ (i : Int) + 1 := by omega
   have hln : Hid (o.size ≤ 2 * i) := Lh (by have := escG_len zl (l.take i); rw [← hO.out, List.length_take, sizeL] at this; omega)
   generalize l[i] = x at *
   clear HB HX hL
   go_wp2_with fail
   go_loopw [5, 7] (fun ov kv wr => ∃ (q : ByteArray) (k : Nat), ov = .string q ∧ kv = .int .i64 (k : Int) ∧ k ≤ z.size ∧ Gr w wr ∧ Hid (q.data.toList = o.data.toList ++ preG zl x k)) (fun _ kv _ => leftTo z.size kv)
   case atStart => exact ⟨o, 0, rfl, rfl, Nat.zero_le _, Gg.out, Lh (by simp [preG])⟩
   case round =>
    obtain ⟨q, k, rfl, rfl, hk, hG, hQ⟩ := hrel
    have Gq := Lh hG
    have hqs : q.size ≤ 2000002 := by
     have := hln.out
     have p0 := preG_len zl x k
     have h1 := congrArg List.length hQ.out
     rw [List.length_append, sizeL, sizeL] at h1
     omega
    have hqi : (q.size : Int) ≤ 2000002 := by omega
    clear hG Gg
    by_cases hkc : k < z.size
    ·have hki : (k : Int) < (z.size : Int) := by omega
     have hkL : k < zl.length := by rw [← Hzs.out]; exact hkc
     have ez := HZ.out k hkc hkL
     have HNo : Hid (x = zl[k] → preG zl x (k + 1) = preG zl x k ++ [92]) := Lh (fun e => preG_on Hzd.out hkL e)
     have HNn : Hid (x ≠ zl[k] → preG zl x (k + 1) = preG zl x k) := Lh (fun e => preG_off hkL e)
     have Hk := Lh hkc
     have hk1 : (k : Int) + 1 ≤ 9223372036854775807 := by have := Hz10.out; omega
     have hk2 : -9223372036854775808 ≤ (k : Int) + 1 := by omega
     generalize zl[k] = y at *
     clear hkL hk
     by_cases hx : x = y
     ·have tx : ((x.toNat : Int) == (y.toNat : Int)) = true := by rw [hx]; simp
      have HE := Lh (HNo.out hx)
      clear hx hi1 hi2 HNo HNn
      go_wp2_with fail
      go_quiet (fail)
      go_wp2_with fail
      go_roundw
      case rel => exact ⟨q ++ ⟨#[92]⟩, k + 1, rfl, rfl, Hk.out, Gq.out.drewN _, Lh (by rw [ByteArray.data_append, Array.toList_append, hQ.out, HE.out, List.append_assoc])⟩
      case measure => simp [leftTo]; have := Hk.out; omega
     ·have tx : ((x.toNat : Int) == (y.toNat : Int)) = false := by
       simp only [beq_eq_false_iff_ne, ne_eq]
       intro h
       exact hx (UInt8.toNat_inj.1 (by omega))
      have HE := Lh (HNn.out hx)
      clear hx hi1 hi2 HNo HNn
      go_wp2_with fail
      go_quiet (fail)
      go_wp2_with fail
      go_roundw
      case rel => exact ⟨q, k + 1, rfl, rfl, Hk.out, Gq.out.drewN _, Lh (by rw [hQ.out, HE.out])⟩
      case measure => simp [leftTo]; have := Hk.out; omega
    ·have hki : decide ((k : Int) < (z.size : Int)) = false := by simp; omega
     have hki2 : ¬ (k : Int) < (z.size : Int) := by omega
     have hki3 : decide (k < z.size) = false := decide_eq_false hkc
     have hOq : Hid (escG zl (l.take (i + 1)) = q.data.toList ++ [x]) := Lh (by rw [hst.out, preG_all zl x k (by rw [← Hzs.out]; omega), hQ.out, hO.out, List.append_assoc])
     have hci2 : (i : Int) + 1 ≤ (s.size : Int) := by omega
     clear hQ hst hln hkc hk
     go_wp2_with fail
     go_roundw
     case rel => exact ⟨i + 1, _, rfl, rfl, hc, Lh (by rw [ByteArray.data_append, Array.toList_append, hX.out, hOq.out]), Gq.out⟩
     case measure => simp only [leftTo]; omega
  ·have hci : decide ((i : Int) < (s.size : Int)) = false := by simp; omega
   have hci' : decide (i < s.size) = false := by simp; omega
   have E : Hid (R = o) := Lh (baE (by rw [HR.out, hO.out, List.take_of_length_le (by have := Hsz.out; omega)]))
   clear HB HX hc
   go_wp2_with fail
   go_ret
   exact ⟨by rw [E.out]; rfl, Gg.out⟩
end
end Go.Proofs.YthmopindibdhnaaGreatDoor.G
namespace Go.Proofs.YthmopindibdhnaaGreatDoor
open Go.RowKit Go.Shelf
def sameT (t u : Tok) : Bool := t.kind == u.kind && (t.text.toList == u.text.toList && (t.repl.toList == u.repl.toList && (t.more.toList == u.more.toList && t.opn == u.opn)))
set_option maxRecDepth 100000 in
theorem tokSame_p (t u : Tok) (w : World) : Calls Tryz.prog 50 #[t.val, u.val] w fun e w' => e = .returned (.bool (sameT t u)) ∧ Gr w w' := by
 obtain ⟨k1, p1, s1, r1, m1, o1⟩ := t
 obtain ⟨k2, p2, s2, r2, m2, o2⟩ := u
 rw [show Tok.val ⟨k1, p1, s1, r1, m1, o1⟩ = .agg #[.int .i64 k1, .int .i64 p1, .string s1, .string r1, .string m1, .int .i64 o1] from rfl, show Tok.val ⟨k2, p2, s2, r2, m2, o2⟩ = .agg #[.int .i64 k2, .int .i64 p2, .string s2, .string r2, .string m2, .int .i64 o2] from rfl]
 go_enter Tryz.func50, Tryz.ntmps50
 go_wp2_with fail
 all_goals
  go_ret
  refine ⟨?_, ?_⟩
 all_goals first | exact ((Gr.refl w).alloc _).alloc _ | (simp [sameT]; simp_all)
theorem tokSame_r (t u : Tok) (w : World) : Calls Tryz.prog 31 #[t.val, u.val] w fun e w' => e = .returned (.bool (sameT t u)) ∧ Gr w w' := by
 obtain ⟨k1, p1, s1, r1, m1, o1⟩ := t
 obtain ⟨k2, p2, s2, r2, m2, o2⟩ := u
 rw [show Tok.val ⟨k1, p1, s1, r1, m1, o1⟩ = .agg #[.int .i64 k1, .int .i64 p1, .string s1, .string r1, .string m1, .int .i64 o1] from rfl, show Tok.val ⟨k2, p2, s2, r2, m2, o2⟩ = .agg #[.int .i64 k2, .int .i64 p2, .string s2, .string r2, .string m2, .int .i64 o2] from rfl]
 go_enter Tryz.func31, Tryz.ntmps31
 go_wp2_with fail
 all_goals
  go_ret
  refine ⟨?_, ?_⟩
 all_goals first | exact ((Gr.refl w).alloc _).alloc _ | (simp [sameT]; simp_all)
end Go.Proofs.YthmopindibdhnaaGreatDoor
namespace Go.Proofs.YthmopindibdhnaaGreatDoor
open Go.RowKit Go.Shelf
def TksIs (w : World) (v : Value) (l : List Tok) : Prop := ∃ ao cap, v = .slice ao l.length cap ∧ ∀ k (h : k < l.length), ∃ b o, ao = some ⟨b, o, none⟩ ∧ b < w.heap.size ∧
 w.cell? ⟨b, o + k * 6, none⟩ = some (.int .i64 l[k].kind) ∧ w.cell? ⟨b, o + k * 6 + 1, none⟩ = some (.int .i64 l[k].place) ∧ w.cell? ⟨b, o + k * 6 + 2, none⟩ = some (.string l[k].text) ∧
 w.cell? ⟨b, o + k * 6 + 3, none⟩ = some (.string l[k].repl) ∧ w.cell? ⟨b, o + k * 6 + 4, none⟩ = some (.string l[k].more) ∧ w.cell? ⟨b, o + k * 6 + 5, none⟩ = some (.int .i64 l[k].opn)
theorem TksIs.gr {w w' : World} {v : Value} {l : List Tok} (h : TksIs w v l) (hg : Gr w w') : TksIs w' v l := by
 obtain ⟨ao, cap, rfl, h⟩ := h
 refine ⟨ao, cap, rfl, fun k hk => ?_⟩
 obtain ⟨b, o, rfl, hb, c⟩ := h k hk
 refine ⟨b, o, rfl, Nat.lt_of_lt_of_le hb hg.size, ?_⟩
 simp only [cell_gr hg hb]
 exact c
def alikeN : List Tok → List Tok → Nat
 | t :: k, u :: l => if sameT t u = true then alikeN k l + 1 else 0
 | _, _ => 0
variable {k l : List Tok} {n : Nat}
theorem alikeN_on (h1 : n < k.length) (h2 : n < l.length) (hs : sameT k[n] l[n] = true) : alikeN (k.drop n) (l.drop n) = alikeN (k.drop (n + 1)) (l.drop (n + 1)) + 1 := by
 rw [List.drop_eq_getElem_cons h1, List.drop_eq_getElem_cons h2, alikeN, if_pos hs]
theorem alikeN_off (h1 : n < k.length) (h2 : n < l.length) (hs : sameT k[n] l[n] = false) : alikeN (k.drop n) (l.drop n) = 0 := by
 rw [List.drop_eq_getElem_cons h1, List.drop_eq_getElem_cons h2, alikeN, if_neg (by rw [hs]; decide)]
theorem alikeN_end1 (h1 : ¬ n < k.length) : alikeN (k.drop n) (l.drop n) = 0 := by
 rw [List.drop_eq_nil_of_le (by omega), alikeN]
 simp
theorem alikeN_end2 (h1 : ¬ n < l.length) : alikeN (k.drop n) (l.drop n) = 0 := by
 rw [List.drop_eq_nil_of_le (by omega : l.length ≤ n)]
 cases k.drop n <;> rfl
set_option maxRecDepth 100000 in
set_option maxHeartbeats 2000000 in
theorem alike_p {a b : Value} (w : World) (hk : TksIs w a k) (hl : TksIs w b l) (hkl : k.length ≤ 9223372036854775807) : Calls Tryz.prog 32 #[a, b] w fun e w' => e = .returned (.int .i64 (alikeN k l)) ∧ Gr w w' := by
 have HK := Lh hk
 have HL := Lh hl
 obtain ⟨a1, cap1, rfl, hc1⟩ := hk
 obtain ⟨a2, cap2, rfl, hc2⟩ := hl
 have Hc1 := Lh hc1
 have Hc2 := Lh hc2
 have Hkl := Lh hkl
 clear hc1 hc2 hkl
 have HR : Hid (alikeN k l = 0 + alikeN (k.drop 0) (l.drop 0)) := Lh (by simp)
 generalize alikeN k l = R at *
 have HS := Lh (fun t u w => tokSame_p t u w)
 go_enter Tryz.func32, Tryz.ntmps32
 go_wp2_with fail
 go_loopw [5] (fun nv wr => ∃ n : Nat, nv = .int .i64 (n : Int) ∧ n ≤ k.length ∧ Gr w wr ∧ Hid (R = n + alikeN (k.drop n) (l.drop n))) (fun nv _ => leftTo k.length nv)
 case atStart => exact ⟨0, rfl, Nat.zero_le _, Gr.refl w, HR⟩
 case round =>
  obtain ⟨n, rfl, hn, hg, hR⟩ := hrel
  have Hg := Lh hg
  clear hg HR
  by_cases h1 : n < k.length
  ·by_cases h2 : n < l.length
   ·obtain ⟨b1, o1, rfl, hb1, x0, x1, x2, x3, x4, x5⟩ := Hc1.out n h1
    obtain ⟨b2, o2, rfl, hb2, y0, y1, y2, y3, y4, y5⟩ := Hc2.out n h2
    rw [← cell_gr Hg.out hb1] at x0 x1 x2 x3 x4 x5
    rw [← cell_gr Hg.out hb2] at y0 y1 y2 y3 y4 y5
    have i1 : (n : Int) < (k.length : Int) := by omega
    have i2 : (n : Int) < (l.length : Int) := by omega
    have hS := Lh (fun w => HS.out k[n] l[n] w)
    have Hon := Lh (fun hs => alikeN_on h1 h2 hs)
    have Hoff := Lh (fun hs => alikeN_off h1 h2 hs)
    rw [show Tok.val k[n] = .agg #[.int .i64 k[n].kind, .int .i64 k[n].place, .string k[n].text, .string k[n].repl, .string k[n].more, .int .i64 k[n].opn] from rfl, show Tok.val l[n] = .agg #[.int .i64 l[n].kind, .int .i64 l[n].place, .string l[n].text, .string l[n].repl, .string l[n].more, .int .i64 l[n].opn] from rfl] at hS
    have Hn1 : Hid (n < k.length ∧ n ≤ 9223372036854775807) := Lh (by have := Hkl.out; omega)
    have b1' : (n : Int) + 1 ≤ 9223372036854775807 := by have := Hkl.out; omega
    have b2' : -9223372036854775808 ≤ (n : Int) + 1 := by omega
    generalize sameT k[n] l[n] = same at *
    generalize k[n] = t at *
    generalize l[n] = u at *
    clear HS Hc1 Hc2 HK HL h1 h2 hn hb1 hb2
    cases same
    ·have E : Hid (R = n) := Lh (by rw [hR.out, Hoff.out rfl]; omega)
     clear Hon Hoff hR
     go_wp2_with fail
     go_still_tail 19, (by kernel_rfl)
     change wpList _ _ _ _ _ wr.drew
     generalize hW2 : wr.drew = w2
     have G2 := Lh (by rw [← hW2]; exact Hg.out.drew : Gr w w2)
     clear hW2 x0 x1 x2 x3 x4 x5 y0 y1 y2 y3 y4 y5
     go_wp2_with fail
     refine (hS.out _).mono ?_
     rintro e9 w9 ⟨rfl, g9⟩
     have G9 := Lh (G2.out.trans g9)
     clear g9
     go_wp2_with fail
     go_ret
     rw [E.out]
     exact ⟨rfl, G9.out⟩
    ·have HE := Lh (Hon.out rfl)
     clear Hon Hoff
     go_wp2_with fail
     go_still_tail 19, (by kernel_rfl)
     change wpList _ _ _ _ _ wr.drew
     generalize hW2 : wr.drew = w2
     have G2 := Lh (by rw [← hW2]; exact Hg.out.drew : Gr w w2)
     clear hW2 x0 x1 x2 x3 x4 x5 y0 y1 y2 y3 y4 y5
     go_wp2_with fail
     refine (hS.out _).mono ?_
     rintro e9 w9 ⟨rfl, g9⟩
     have G9 := Lh (G2.out.trans g9)
     clear g9
     go_wp2_with fail
     go_roundw
     case rel => have := Hn1.out; exact ⟨n + 1, rfl, by omega, G9.out, Lh (by rw [hR.out, HE.out]; omega)⟩
     case measure => have := Hn1.out; simp only [leftTo]; omega
   ·have i1 : (n : Int) < (k.length : Int) := by omega
    have i2 : decide ((n : Int) < (l.length : Int)) = false := by simp; omega
    have i3 : decide (n < l.length) = false := by simpa using h2
    have E : Hid (R = n) := Lh (by rw [hR.out, alikeN_end2 h2]; omega)
    clear hR HS Hc1 Hc2 HK HL h1 h2 hn
    go_wp2_with fail
    go_quiet (fail)
    go_wp2_with fail
    go_ret
    rw [E.out]
    exact ⟨rfl, Hg.out.drewN _⟩
  ·have i1 : decide ((n : Int) < (k.length : Int)) = false := by simp; omega
   have i3 : decide (n < k.length) = false := by simpa using h1
   have E : Hid (R = n) := Lh (by rw [hR.out, alikeN_end1 h1]; omega)
   clear hR HS Hc1 Hc2 HK HL h1 hn
   go_wp2_with fail
   go_quiet (fail)
   go_wp2_with fail
   go_ret
   rw [E.out]
   exact ⟨rfl, Hg.out.drewN _⟩
end Go.Proofs.YthmopindibdhnaaGreatDoor
namespace Go.Proofs.YthmopindibdhnaaGreatDoor.G
open Go.RowKit Go.Shelf Go.Maps
def wrB (t : Tok) : List UInt8 :=
 if t.kind = 4 then [39] ++ escG [39, 92] t.text.data.toList ++ [39]
 else if t.kind = 5 then [34] ++ t.text.data.toList ++ [34]
 else if t.kind = 6 then [113, 119, 40] ++ escG [40, 41, 92] t.text.data.toList ++ [41]
 else if t.kind = 7 then [109, 47] ++ escG [47] t.text.data.toList ++ [47] ++ t.more.data.toList
 else if t.kind = 8 then [115, 47] ++ escG [47] t.text.data.toList ++ [47] ++ escG [47] t.repl.data.toList ++ [47] ++ t.more.data.toList
 else if t.kind = 9 then [116, 114, 47] ++ escG [47, 92] t.text.data.toList ++ [47] ++ escG [47, 92] t.repl.data.toList ++ [47] ++ t.more.data.toList
 else t.text.data.toList
def wgt (t : Tok) : Nat := 2 * (t.text.size + t.repl.size + t.more.size) + 6
theorem wrB_len (t : Tok) : (wrB t).length ≤ wgt t := by
 have h1 := escG_len [39, 92] t.text.data.toList
 have h2 := escG_len [40, 41, 92] t.text.data.toList
 have h3 := escG_len [47] t.text.data.toList
 have h4 := escG_len [47, 92] t.text.data.toList
 have h5 := escG_len [47] t.repl.data.toList
 have h6 := escG_len [47, 92] t.repl.data.toList
 have e1 := sizeL t.text
 have e2 := sizeL t.repl
 have e3 := sizeL t.more
 unfold wrB wgt
 repeat' split
 all_goals
  first | omega | (simp only [List.length_append, List.length_cons, List.length_nil]; omega)
theorem ba_is {a : ByteArray} {l : List UInt8} (h : a.data.toList = l) : a = ba l := baE (by rw [h, ba_data])
def escB (z : List UInt8) (s : ByteArray) : ByteArray := ba (escG z s.data.toList)
theorem escB_data (z : List UInt8) (s : ByteArray) : (escB z s).data.toList = escG z s.data.toList := ba_data _
theorem ba_len (l : List UInt8) : (ba l).size = l.length := by rw [← sizeL, ba_data]
theorem escB_len (z : List UInt8) {s : ByteArray} (hs : s.size ≤ 1000000) : (escB z s).size ≤ 2000000 := by
 unfold escB
 rw [ba_len]
 have := escG_len z s.data.toList
 rw [sizeL] at this
 omega
set_option maxRecDepth 100000 in
set_option maxHeartbeats 2000000 in
theorem quoted_g (s : ByteArray) (hs : s.size ≤ 1000000) (w : World) : Calls Tryz.prog 62 #[.string s] w fun e w' => e = .returned (.string (ba ([39] ++ escG [39, 92] s.data.toList ++ [39]))) ∧ Gr w w' := by
 have HE := Lh (fun w => escG_p ⟨#[39, 92]⟩ s hs w)
 rw [show (⟨#[39, 92]⟩ : ByteArray).data.toList = [39, 92] from rfl] at HE
 obtain ⟨E, hE⟩ : ∃ E, E = ba (escG [39, 92] s.data.toList) := ⟨_, rfl⟩
 have hz : E.size ≤ 2000000 := by rw [hE, ba_len]; have := escG_len [39, 92] s.data.toList; rw [sizeL] at this; omega
 have HV : Hid ((⟨#[39]⟩ ++ E ++ ⟨#[39]⟩ : ByteArray) = ba ([39] ++ escG [39, 92] s.data.toList ++ [39])) := Lh (ba_is (by rw [app_data, app_data, hE, ba_data]))
 rw [← HV.out]
 rw [← hE] at HE
 clear hE HV
 go_enter Tryz.func62, Tryz.ntmps62
 go_wp2_with fail
 refine (HE.out _).mono ?_
 rintro e w1 ⟨rfl, g⟩
 have G1 := Lh g
 clear g
 go_wp2_with fail
 go_ret
 exact ⟨rfl, G1.out⟩
end Go.Proofs.YthmopindibdhnaaGreatDoor.G
