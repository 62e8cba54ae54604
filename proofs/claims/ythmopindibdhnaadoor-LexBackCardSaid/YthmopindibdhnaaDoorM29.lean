/- BkW BJJn BLKq BJPj BkL OpenW -/
import Derived.Test.YthmopindibdhnaaDoorM28
import Derived.StillTailTactics
import Derived.Test.YthmopindibdhnaaDoorM21
import Derived.Test.YthmopindibdhnaaDoorM25
import Derived.Test.YthmopindibdhnaaDoorRows
import Derived.Lib.LaidU8
import Derived.Lib.LaidTab
import Derived.Stop.LaidErr
namespace Go.Proofs.YthmopindibdhnaaDoor.G.Bk
open Go.RowKit Go.Shelf
section
variable {R R2 : Src} {term : Bool} {t : RTok}
/-- how much the texts of a token take -/
theorem nx_wgt (h : Nx R term t R2) : 2 * ((textV t).length + (replV t).length + t.more.length) + 7 + 9 * R2.length ≤ 9 * R.length := by
  have asis : ∀ k n, 1 ≤ n → n ≤ R.length → 2 * ((textV (asIs k n R).1).length + (replV (asIs k n R).1).length + (asIs k n R).1.more.length) + 7 + 9 * (R.drop n).length ≤ 9 * R.length := fun k n h1 h2 => by
    rw [textP_asIs, replP_asIs, List.length_take, byt_len, List.length_drop]
    show 2 * (min n R.length + 0 + 0) + 7 + 9 * (R.length - n) ≤ _
    omega
  cases h with
  | word n h1 h2 h3 =>
    refine asis 0 _ h2 ?_
    have := wordN_le (byt R)
    rw [byt_len] at this; omega
  | num x u h1 h2 =>
    have := digN_cut (B := byt R) (K := []) (by rw [h1, byt_len]; simp) (fun c hc => nomatch hc)
    refine asis 1 _ this.2.1 ?_
    have := this.2.2
    rw [byt_len] at this; exact this
  | sign n h1 h2 h3 => exact asis 3 _ h2 h3
  | var n h1 h2 =>
    have := varS_len h2
    rw [byt_len] at this
    exact asis 2 _ (by omega) this
  | str pl f raw o _ h0 h1 h2 =>
    have := len_4 (pl := pl) (raw := raw) (o := o) h1
    have e : replV ⟨4, pl, f, raw, [], [], o, 0, 0⟩ = [] := by unfold replV; rcases h1 with rfl | rfl <;> rfl
    rw [e]
    simp only [List.length_nil]; omega
  | inter pl f raw o _ h0 h1 hd h2 h3 =>
    have := len_5 (pl := pl) (raw := raw) (o := o) h1
    have e : replV ⟨5, pl, f, raw, [], [], o, 0, 0⟩ = [] := by unfold replV; rcases h1 with rfl | rfl <;> rfl
    rw [e]
    simp only [List.length_nil]; omega
  | words pl raw o _ h0 h1 =>
    show 2 * ((wordsR (plR o (partU o) raw)).length + 0 + 0) + 7 + _ ≤ _
    have := words_len (plR o (partU o) raw)
    have := plR_len o (partU o) raw
    omega
  | pat pl raw o R1 h0 h1 h2 =>
    show 2 * ((patR raw).length + 0 + ((byt R1).take (flagS R1 flagsP)).length) + 7 + _ ≤ _
    have := patR_len raw
    have := flagS_len R1 flagsP
    simp only [List.length_take, List.length_drop, byt_len]; omega
  | subst pl raw raw2 o o2 R1 h0 hd h1 h2 h3 =>
    show 2 * ((patR raw).length + (inR o2 (partU o2) true raw2).length + ((byt R1).take (flagS R1 flagsP)).length) + 7 + _ ≤ _
    have := patR_len raw
    have := inR_len o2 (partU o2) true raw2
    have := flagS_len R1 flagsP
    simp only [List.length_take, List.length_drop, byt_len]; omega
  | trans pl raw raw2 o o2 R1 h0 h1 =>
    show 2 * ((plR o (partU o) raw).length + (plR o2 (partU o2) raw2).length + ((byt R1).take (flagS R1 flagsT)).length) + 7 + _ ≤ _
    have := plR_len o (partU o) raw
    have := plR_len o2 (partU o2) raw2
    have := flagS_len R1 flagsT
    simp only [List.length_take, List.length_drop, byt_len]; omega
end
theorem run_wgt {R : Src} {term : Bool} {rt : List RTok} {tms : List Bool} {ops : List Nat} {ts : List RTok} (h : Run R term rt tms ops ts) : (ts.map fun t => 2 * ((textV t).length + (replV t).length + t.more.length) + 7).sum ≤ 9 * R.length := by
  induction h with
  | done h0 => exact Nat.zero_le _
  | @step R term rt tms ops t R2 ts h0 e hr ih =>
    have h1 := nx_wgt (next_nx e)
    have hs := skip_len false R
    obtain ⟨bw, bk, bt, brp, bm, _⟩ := brace_raw t rt tms (nearS R) ops
    rw [List.map_cons, List.sum_cons, bt, brp, bm]
    omega
/-- how much the tokens of a source take -/
theorem wgts_of {l : List UInt8} {r : List RTok × List Bool} (h : lexO false l = .ok r) : wgts (toksOf r.1) ≤ 9 * l.length := by
  obtain ⟨ts, e1, hr, ho, hl⟩ := lexO_run h
  have hv := run_vw hr (by rw [src_byt]; exact ho)
  have h1 := run_wgt hr
  have hll : (srcOf l).length = l.length := by rw [← byt_len, src_byt]
  have et : toksOf r.1 = ts.map rend := by unfold toksOf; rw [e1, List.map_reverse, List.reverse_reverse]
  have e : wgts (ts.map rend) = (ts.map fun t => 2 * ((textV t).length + (replV t).length + t.more.length) + 7).sum := by
    clear h1 et e1 hr hl h
    unfold wgts
    rw [List.map_map]
    congr 1
    refine List.map_congr_left fun t ht => ?_
    have := hv t ht
    show wgt (rend t) + 1 = _
    unfold wgt rend
    simp only [ba_len, this.text, this.repl]
  rw [et, e]
  omega
theorem lexO_len {l : List UInt8} {r : List RTok × List Bool} (h : lexO false l = .ok r) : l.length ≤ 4000 := by
  unfold lexO at h
  split at h
  · exact nomatch h
  · omega
end Go.Proofs.YthmopindibdhnaaDoor.G.Bk
namespace Go.Proofs.YthmopindibdhnaaDoor.G
open Go.RowKit Go.Shelf Go.Maps
theorem TokAt.oth {W W' : World} {b B : Nat} {t : Tok} (h : TokAt W b t) (k : Oth B W W') (hne : b ≠ B) : TokAt W' b t :=
  k b _ h (fun e => hne (by injection e)) (fun c fz e => by injection e with _ e _; exact absurd e (by decide))
theorem wgts_mem : ∀ {l : List Tok} {i : Nat} (h : i < l.length), wgt l[i] + 1 ≤ wgts l
  | t :: l, 0, _ => by unfold wgts; simp only [List.map_cons, List.sum_cons, List.getElem_cons_zero]; omega
  | t :: l, i + 1, h => by
    have := wgts_mem (l := l) (i := i) (by simpa using h)
    unfold wgts at this ⊢
    simp only [List.map_cons, List.sum_cons, List.getElem_cons_succ]
    omega
theorem joinL_at {l : List Tok} {i : Nat} (h : i < l.length) (term : Bool) : joinL term (l.drop i) = wrB l[i] ++ (sepB l[i] (l.drop (i + 1)) term ++ joinL (afterB l[i] term) (l.drop (i + 1))) := by
  rw [List.drop_eq_getElem_cons h, joinL]
theorem sepB_on {t : Tok} {l : List Tok} {i : Nat} (h : i < l.length) (term : Bool) : sepB t (l.drop i) term = if tightB t l[i] term = true then [] else [32] := by
  rw [List.drop_eq_getElem_cons h, sepB]
theorem sepB_off {t : Tok} {l : List Tok} {i : Nat} (h : l.length ≤ i) (term : Bool) : sepB t (l.drop i) term = [] := by
  rw [List.drop_eq_nil_of_le h, sepB]
set_option maxRecDepth 100000 in
set_option maxHeartbeats 4000000 in
theorem joined_p {v : Value} {l : List Tok} (w : World) (hl : TksIs w v l) (hw : wgts l ≤ 1000000) : Calls Tryd.prog 10 #[v] w fun e w' => e = .returned (.string (ba (joinL true l))) ∧ Gr w w' := by
  obtain ⟨a1, cap1, rfl, hc1⟩ := hl
  have Hc1 := Lib.hid hc1
  have Hm := Lib.hid (fun i (h : i < l.length) => (show wgt l[i] + 1 ≤ 1000000 by have := wgts_mem h; omega))
  have hJ := joinL_len true l
  have Hat := Lib.hid (fun i (h : i < l.length) term => joinL_at h term)
  have Hon := Lib.hid (fun t i (h : i < l.length) term => sepB_on (t := t) h term)
  have Hoff := Lib.hid (fun t i (h : l.length ≤ i) term => sepB_off (t := t) h term)
  have hn : l.length ≤ 1000000 := by
    have : ∀ m : List Tok, m.length ≤ wgts m := fun m => by
      induction m with
      | nil => exact Nat.le_refl _
      | cons t m ih => unfold wgts at ih ⊢; simp only [List.length_cons, List.map_cons, List.sum_cons]; omega
    have := this l
    omega
  obtain ⟨J, hJe⟩ : ∃ J, J = joinL true l := ⟨_, rfl⟩
  rw [← hJe] at hJ ⊢
  have HJ0 : Hid (J = [] ++ joinL true (l.drop 0)) := Lib.hid (by rw [hJe]; simp)
  have HJl : Hid (J.length ≤ 1000000) := Lib.hid (by omega)
  have Hn := Lib.hid hn
  clear hc1 hJ hJe hw hn
  go_enter Tryd.func10, Tryd.ntmps10
  go_wp2_with fail
  generalize hW : w.alloc (.cells #[.pointer none, .slice none 0 0] 48) = W1
  have G1 : Hid (Gr w W1) := Lib.hid (by rw [← hW]; exact (Gr.refl w).alloc _)
  have hBl : Hid (Bld w.heap.size [] W1) := Lib.hid (by rw [← hW]; exact bld_new w)
  have hsz1 : Hid (W1.heap.size = w.heap.size + 1) := Lib.hid (by rw [← hW]; simp)
  clear hW
  go_loopw [4, 5, 6, 9] (fun tv _ _ iv wr => ∃ (i : Nat) (term : Bool) (u : List UInt8), iv = .int .i64 (i : Int) ∧ tv = .bool term ∧ i ≤ l.length ∧ Hid (J = u ++ joinL term (l.drop i)) ∧ Hid (Bld w.heap.size u wr) ∧ Hid (Gr w wr) ∧ Hid (w.heap.size + 1 ≤ wr.heap.size)) (fun _ _ _ iv _ => leftTo l.length iv)
  case atStart => exact ⟨0, true, [], rfl, rfl, Nat.zero_le _, HJ0, hBl, G1, Lib.hid (by rw [hsz1.out]; exact Nat.le_refl _)⟩
  case round =>
    obtain ⟨i, term, u, rfl, rfl, hi, HJ, Bl, Gg, Z⟩ := hrel
    clear hBl hsz1 G1 HJ0
    by_cases hc : i < l.length
    · have hci : (i : Int) < (l.length : Int) := by omega
      obtain ⟨b1, o1, rfl, hb1, x0, x1, x2, x3, x4, x5⟩ := Hc1.out i hc
      rw [← cell_gr Gg.out hb1] at x0 x1 x2 x3 x4 x5
      obtain ⟨m, hm⟩ : ∃ m, m = i + 1 := ⟨_, rfl⟩
      have hm1 : (i : Int) + 1 = (m : Int) := by omega
      have hm2 : (m : Int) ≤ 9223372036854775807 := by have := Hn.out; omega
      have hm3 : -9223372036854775808 ≤ (m : Int) := by omega
      have hm4 : IntKind.i64.wrap (m : Int) = (m : Int) := by rw [IntKind.wrap_i64]; omega
      have Hmi1 := Lib.hid hm
      have HA := Lib.hid (Hat.out i hc term)
      rw [← hm] at HA
      have Hmi := Lib.hid (Hm.out i hc)
      have Hul : Hid (u.length ≤ 1000000) := Lib.hid (by have := HJl.out; rw [HJ.out, List.length_append] at this; omega)
      obtain ⟨t, ht⟩ : ∃ t, t = l[i] := ⟨_, rfl⟩
      have Ht := Lib.hid (fun (h : i < l.length) => (show t = l[i] from ht))
      rw [← ht] at x0 x1 x2 x3 x4 x5 HA Hmi
      have hts : t.text.size + t.repl.size + t.more.size ≤ 1000000 := by have := Hmi.out; unfold wgt at this; omega
      have HWr := Lib.hid (fun w => wr_p t.kind t.place t.opn t.text t.repl t.more hts w)
      have HBh := Lib.hid (fun w => behind_p t.kind t.place t.text t.repl t.more t.opn term w)
      have hwl := wrB_len t
      have Hwl : Hid ((wrB t).length ≤ 1000000) := Lib.hid (by have := Hmi.out; omega)
      have GA : Hid (Gr wr (wr.alloc (.cells #[.int .i64 t.kind, .int .i64 t.place, .string t.text, .string t.repl, .string t.more, .int .i64 t.opn] 32))) := Lib.hid ((Gr.refl wr).alloc _)
      have TA : Hid (TokAt (wr.alloc (.cells #[.int .i64 t.kind, .int .i64 t.place, .string t.text, .string t.repl, .string t.more, .int .i64 t.opn] 32)) wr.heap.size t) := Lib.hid (heap_alloc_new wr _)
      have hXB : wr.heap.size ≠ w.heap.size := by have := Z.out; omega
      have HXB := Lib.hid hXB
      have HcI := Lib.hid hc
      obtain ⟨y0, y1, y2, y3, y4, y5⟩ := TA.out.cells
      clear ht hts hwl hXB hc hi hm
      go_wp2_with fail
      refine (HWr.out _).mono ?_
      rintro e2 w2 ⟨rfl, g2⟩
      have G2 := Lib.hid (Gg.out.trans (GA.out.trans g2))
      have T2 := Lib.hid (TA.out.gr g2)
      have B2 := Lib.hid (Bld.gr' Bl.out (GA.out.trans g2))
      have Z2 : Hid (w.heap.size + 1 ≤ w2.heap.size) := Lib.hid (Nat.le_trans Z.out (GA.out.trans g2).size)
      clear g2 x0 x1 x2 x3 x4 x5 y0 y1 y2 y3 y4 y5
      go_wp2_with fail
      refine (bld_string (ba (wrB t)) B2.out (by rw [ba_len]; have := Hul.out; have := Hwl.out; omega) (by have := Z2.out; omega)).mono ?_
      rintro e3 w3 ⟨rfl, hl3, hb3, ho3⟩
      rw [ba_data] at hl3
      have B3 := Lib.hid hl3
      have G3 := Lib.hid (Gr.below' G2.out hb3)
      have T3 := Lib.hid (T2.out.oth ho3 HXB.out)
      have Z3 : Hid (w.heap.size + 1 ≤ w3.heap.size) := Lib.hid (Nat.le_trans Z2.out hb3.size)
      clear hl3 hb3 ho3 B2 G2 T2 Z2
      obtain ⟨y0, y1, y2, y3, y4, y5⟩ := T3.out.cells
      by_cases hlast : m < l.length
      · have hli : (m : Int) < (l.length : Int) := by omega
        obtain ⟨b2, o2, he2, hb2, z0, z1, z2, z3, z4, z5⟩ := Hc1.out m hlast
        have HS := Lib.hid (Hon.out t m hlast term)
        obtain ⟨q, hq⟩ : ∃ q, q = l[m] := ⟨_, rfl⟩
        have Hmq := Lib.hid (Hm.out m hlast)
        rw [← hq] at z0 z1 z2 z3 z4 z5 HS Hmq
        injection he2 with he2
        injection he2 with e1 e3 _
        subst e1
        subst e3
        rw [← cell_gr G3.out hb2] at z0 z1 z2 z3 z4 z5
        have hqs : q.text.size + q.repl.size + q.more.size ≤ 1000000 := by have := Hmq.out; unfold wgt at this; omega
        have HT := Lib.hid (fun w => tight_p t q hqs term w)
        generalize tightB t q term = tb at *
        clear hq hqs hlast
        go_wp2_with fail
        go_still_tail 13, (by kernel_rfl)
        change wpList _ _ _ _ _ w3.drew
        generalize hW4 : w3.drew = W4
        have gd : Gr w3 W4 := by rw [← hW4]; exact (Gr.refl w3).drew
        have G4 := Lib.hid (G3.out.trans gd)
        have T4 := Lib.hid (T3.out.gr gd)
        have B4 := Lib.hid (Bld.gr' B3.out gd)
        have Z4 : Hid (w.heap.size + 1 ≤ W4.heap.size) := Lib.hid (Nat.le_trans Z3.out gd.size)
        clear hW4 gd y0 y1 y2 y3 y4 y5 z0 z1 z2 z3 z4 z5 B3 G3 T3 Z3
        go_wp2_with fail
        refine (HT.out _).mono ?_
        rintro e5 w5 ⟨rfl, g5⟩
        have G5 := Lib.hid (G4.out.trans g5)
        have T5 := Lib.hid (T4.out.gr g5)
        have B5 := Lib.hid (Bld.gr' B4.out g5)
        have Z5 : Hid (w.heap.size + 1 ≤ w5.heap.size) := Lib.hid (Nat.le_trans Z4.out g5.size)
        clear g5 B4 G4 T4 Z4
        obtain ⟨y0, y1, y2, y3, y4, y5⟩ := T5.out.cells
        cases tb with
        | true =>
          go_wp2_with fail
          refine (HBh.out _).mono ?_
          rintro e7 w7 ⟨rfl, g7⟩
          have G7 := Lib.hid (G5.out.trans g7)
          have B7 := Lib.hid (Bld.gr' B5.out g7)
          have Z7 : Hid (w.heap.size + 1 ≤ w7.heap.size) := Lib.hid (Nat.le_trans Z5.out g7.size)
          clear g7
          go_wp2_with fail
          go_roundw
          case rel => exact ⟨m, _, _, rfl, rfl, by have := Hmi1.out; have := HcI.out; omega, Lib.hid (by rw [HJ.out, HA.out, HS.out]; simp [afterB]), B7, G7, Z7⟩
          case measure => have := HcI.out; have := Hmi1.out; simp only [leftTo]; omega
        | false =>
          go_wp2_with fail
          refine (bld_byte 32 B5.out (by rw [List.length_append]; have := Hul.out; have := Hwl.out; omega) (by have := Z5.out; omega)).mono ?_
          rintro e6 w6 ⟨rfl, hl6, hb6, ho6⟩
          have B6 := Lib.hid hl6
          have G6 := Lib.hid (Gr.below' G5.out hb6)
          have T6 := Lib.hid (T5.out.oth ho6 HXB.out)
          have Z6 : Hid (w.heap.size + 1 ≤ w6.heap.size) := Lib.hid (Nat.le_trans Z5.out hb6.size)
          clear hl6 hb6 ho6 B5 G5 T5 Z5 y0 y1 y2 y3 y4 y5
          obtain ⟨y0, y1, y2, y3, y4, y5⟩ := T6.out.cells
          go_wp2_with fail
          refine (HBh.out _).mono ?_
          rintro e7 w7 ⟨rfl, g7⟩
          have G7 := Lib.hid (G6.out.trans g7)
          have B7 := Lib.hid (Bld.gr' B6.out g7)
          have Z7 : Hid (w.heap.size + 1 ≤ w7.heap.size) := Lib.hid (Nat.le_trans Z6.out g7.size)
          clear g7
          go_wp2_with fail
          go_roundw
          case rel => exact ⟨m, _, _, rfl, rfl, by have := Hmi1.out; have := HcI.out; omega, Lib.hid (by rw [HJ.out, HA.out, HS.out]; simp [afterB]), B7, G7, Z7⟩
          case measure => have := HcI.out; have := Hmi1.out; simp only [leftTo]; omega
      · have hli : decide ((m : Int) < (l.length : Int)) = false := by simp; omega
        have hli2 : ¬ (m : Int) < (l.length : Int) := by omega
        have hli3 : decide (m < l.length) = false := decide_eq_false hlast
        have HS := Lib.hid (Hoff.out t m (by omega) term)
        clear hlast
        go_wp2_with fail
        go_quiet (fail)
        have gd : Gr w3 (w3.drewN nq) := (Gr.refl w3).drewN _
        generalize w3.drewN nq = W4 at *
        have G5 := Lib.hid (G3.out.trans gd)
        have T5 := Lib.hid (T3.out.gr gd)
        have B5 := Lib.hid (Bld.gr' B3.out gd)
        have Z5 : Hid (w.heap.size + 1 ≤ W4.heap.size) := Lib.hid (Nat.le_trans Z3.out gd.size)
        clear gd y0 y1 y2 y3 y4 y5 B3 G3 T3 Z3
        obtain ⟨y0, y1, y2, y3, y4, y5⟩ := T5.out.cells
        go_wp2_with fail
        refine (HBh.out _).mono ?_
        rintro e7 w7 ⟨rfl, g7⟩
        have G7 := Lib.hid (G5.out.trans g7)
        have B7 := Lib.hid (Bld.gr' B5.out g7)
        have Z7 : Hid (w.heap.size + 1 ≤ w7.heap.size) := Lib.hid (Nat.le_trans Z5.out g7.size)
        clear g7
        go_wp2_with fail
        go_roundw
        case rel => exact ⟨m, _, _, rfl, rfl, by have := Hmi1.out; have := HcI.out; omega, Lib.hid (by rw [HJ.out, HA.out, HS.out]; simp [afterB]), B7, G7, Z7⟩
        case measure => have := HcI.out; have := Hmi1.out; simp only [leftTo]; omega
    · have hci : decide ((i : Int) < (l.length : Int)) = false := by simp; omega
      have hci2 : ¬ (i : Int) < (l.length : Int) := by omega
      have hci3 : decide (i < l.length) = false := decide_eq_false hc
      have E : Hid (ba J = ⟨u.toArray⟩) := Lib.hid (by rw [HJ.out, List.drop_eq_nil_of_le (by omega), joinL, List.append_nil]; rfl)
      clear hc
      go_wp2_with fail
      refine (bld_text Bl.out (by have := Z.out; omega)).mono ?_
      rintro e2 w3 ⟨rfl, hb3⟩
      have G3 := Lib.hid (Gr.below' Gg.out hb3)
      clear hb3
      go_wp2
      go_ret
      exact ⟨by rw [E.out]; rfl, G3.out⟩
end Go.Proofs.YthmopindibdhnaaDoor.G
namespace Go.Proofs.YthmopindibdhnaaDoor.G
open Go.RowKit Go.Shelf Go.Maps
theorem toks_own {w : World} {base : Nat} {v : Value} {l : List Tok} (h : OwnT w base v l) : TksIs w v l := by
  by_cases hl : l = []
  · obtain ⟨ao, cap, hv⟩ := ownsRow_shape h
    exact ⟨ao, cap, hv, fun i hi => by rw [hl] at hi; exact absurd hi (Nat.not_lt_zero _)⟩
  · have hne : 0 < l.length := List.length_pos_iff.2 hl
    obtain ⟨g, cap, hv, _⟩ := tok_at h hne
    refine ⟨_, cap, hv, fun k hk => ?_⟩
    obtain ⟨g2, cap2, hv2, _, hlt, c⟩ := tok_at h hk
    rw [hv] at hv2
    injection hv2 with e1 _ _
    injection e1 with e1
    injection e1 with e1 _ _
    subst e1
    refine ⟨g, 0, rfl, hlt, ?_⟩
    simp only [Nat.zero_add]
    exact c
def LexQ (w : World) (X : Except Nat (List RTok × List Bool)) (e : Ending) (w' : World) : Prop :=
  match X with
  | .error n => (∃ p : Int, e = .returned (.tuple #[.slice none 0 0, .int .i64 p, .int .i64 (n : Int)])) ∧ Gr w w'
  | .ok r => (∃ tv m, e = .returned (.tuple #[tv, .int .i64 m, .int .i64 0]) ∧ TksIs w' tv (toksOf r.1)) ∧ r.1.length ≤ 1000 ∧ Gr w w'
theorem lexq_p (s : ByteArray) (w : World) (hFA : ∀ W, Gr w W → FieldsAt W) : Calls Tryd.prog 6 #[.string s] w (LexQ w (lexO false s.data.toList)) := by
  refine (lex_g (s := s) w hFA).mono fun e w' h => ?_
  cases hx : lexO false s.data.toList with
  | error n => rw [hx] at h; obtain ⟨⟨p, _, h1⟩, h2⟩ := h; exact ⟨⟨_, h1⟩, h2⟩
  | ok r => rw [hx] at h; obtain ⟨tv, h1, h2, _, h3, h4⟩ := h; exact ⟨⟨tv, _, h1, toks_own h2⟩, h3, h4⟩
end Go.Proofs.YthmopindibdhnaaDoor.G
namespace Go.Proofs.YthmopindibdhnaaDoor.G
open Go.RowKit Go.Shelf Go.Maps
/-- what Join gives -/
def joinV (X : Except Nat (List RTok × List Bool)) (J : List UInt8) (l : List Tok) : Value := match X with
  | .error n => .tuple #[.string ⟨#[]⟩, .int .i64 (n : Int)]
  | .ok r => if sameL (toksOf r.1) l = true then .tuple #[.string (ba J), .int .i64 0] else .tuple #[.string ⟨#[]⟩, .int .i64 1]
set_option maxRecDepth 100000 in
set_option maxHeartbeats 4000000 in
theorem join_p {v : Value} {l : List Tok} (w : World) (hl : TksIs w v l) (hw : wgts l ≤ 1000000) (KV : Value) (hKV : KV = joinV (lexO false (joinL true l)) (joinL true l) l)
    (hend : ∀ W, Gr w W → Calls Tryd.prog 6 #[.string (ba (joinL true l))] W (LexQ W (lexO false (joinL true l)))) :
    Calls Tryd.prog 7 #[v] w fun e w' => e = .returned KV ∧ Gr w w' := by
  have HL := Lib.hid hl
  have HJ := Lib.hid (joined_p w hl hw)
  obtain ⟨a1, cap1, rfl, _⟩ := hl
  have HEnd := Lib.hid hend
  have HKV := Lib.hid hKV
  have HX := Lib.hid (fun n => lexO_err (ref := false) (l := joinL true l) (n := n))
  generalize lexO false (joinL true l) = X at *
  generalize hu : ba (joinL true l) = u at *
  have E : Hid (ba (joinL true l) = u) := Lib.hid hu
  clear hend hKV hu hw
  go_enter Tryd.func7, Tryd.ntmps7
  go_wp2_with fail
  refine (HJ.out).mono ?_
  rintro e1 w1 ⟨rfl, g1⟩
  have Gg := Lib.hid g1
  clear g1 HJ
  cases X with
  | error n =>
    have hn : ((n : Int) != 0) = true := by have := HX.out n rfl; simp; omega
    go_wp2_with fail
    refine (HEnd.out _ Gg.out).mono ?_
    rintro e3 w3 ⟨⟨p, rfl⟩, g3⟩
    have G3 := Lib.hid (Gg.out.trans g3)
    clear g3
    go_wp2_with fail
    refine bodyPost_ret (v := .tuple #[.string ⟨#[]⟩, .int .i64 (n : Int)]) (by simp [results, Tryd.results7, go_sem]) rfl ?_
    exact ⟨by rw [HKV.out]; rfl, G3.out⟩
  | ok r =>
    go_wp2_with fail
    refine (HEnd.out _ Gg.out).mono ?_
    rintro e3 w3 ⟨⟨tv, q, rfl, hT⟩, hl3, g3⟩
    have G3 := Lib.hid (Gg.out.trans g3)
    have HSm := Lib.hid (Same_p w3 hT (HL.out.gr G3.out) (by rw [toksOf_len]; omega))
    clear g3 hT hl3
    cases hs : sameL (toksOf r.1) l with
    | true =>
      rw [hs] at HSm
      have HK2 : Hid (KV = .tuple #[.string u, .int .i64 0]) := Lib.hid (by rw [HKV.out, ← E.out]; unfold joinV; simp only; rw [if_pos hs])
      clear hs HKV
      go_wp2_with fail
      refine (HSm.out).mono ?_
      rintro e4 w4 ⟨rfl, g4⟩
      have G4 := Lib.hid (G3.out.trans g4)
      clear g4
      go_wp2_with fail
      refine bodyPost_ret (v := .tuple #[.string u, .int .i64 0]) (by simp [results, Tryd.results7, go_sem]) rfl ?_
      exact ⟨by rw [HK2.out], G4.out⟩
    | false =>
      rw [hs] at HSm
      have HK2 : Hid (KV = .tuple #[.string ⟨#[]⟩, .int .i64 1]) := Lib.hid (by rw [HKV.out]; unfold joinV; simp only; rw [if_neg (by rw [hs]; decide)])
      clear hs HKV
      go_wp2_with fail
      refine (HSm.out).mono ?_
      rintro e4 w4 ⟨rfl, g4⟩
      have G4 := Lib.hid (G3.out.trans g4)
      clear g4
      go_wp2_with fail
      refine bodyPost_ret (v := .tuple #[.string ⟨#[]⟩, .int .i64 1]) (by simp [results, Tryd.results7, go_sem]) rfl ?_
      exact ⟨by rw [HK2.out], G4.out⟩
end Go.Proofs.YthmopindibdhnaaDoor.G
namespace Go.Proofs.YthmopindibdhnaaDoor.G
open Go.RowKit Go.Shelf Go.Maps
set_option maxRecDepth 100000 in
set_option maxHeartbeats 4000000 in
theorem law_back (s : ByteArray) (_ : s.size ≤ 140737488351232) (w : World) (hFA : ∀ W, Gr w W → FieldsAt W) : Calls Tryd.prog 3 #[.string s] w fun e w' => e = .returned (.bool true) ∧ Gr w w' := by
  have HO := Lib.hid (fun w => over_l s w)
  have HK := Lib.hid (fun w => known_l w)
  have HP := Lib.hid (fun W (gW : Gr w W) => lexq_p s W (fun W2 g => hFA W2 (gW.trans g)))
  have HE := Lib.hid (fun n => lexO_err (ref := false) (l := s.data.toList) (n := n))
  have HB := Lib.hid (fun r => Bk.back_plain (l := s.data.toList) (r := r))
  have HW := Lib.hid (fun r => Bk.wgts_of (l := s.data.toList) (r := r))
  have HLn := Lib.hid (fun r => Bk.lexO_len (l := s.data.toList) (r := r))
  have Hsz := Lib.hid (show s.data.toList.length = s.size from sizeL s)
  have HFA := Lib.hid hFA
  generalize s.data.toList = l at *
  clear hFA
  by_cases ho : 16000 < (s.size : Int)
  · have ho' : decide (16000 < (s.size : Int)) = true := by simpa using ho
    rw [ho'] at HO
    clear ho ho' HP HE HB HW HLn Hsz HFA
    go_enter Tryd.func3, Tryd.ntmps3
    go_wp2_with fail
    refine (HO.out _).mono ?_
    rintro e w1 ⟨rfl, rfl⟩
    go_wp2_with fail
    refine (HK.out _).mono ?_
    rintro e w2 ⟨rfl, g⟩
    go_wp2
    go_ret
    exact ⟨rfl, g⟩
  · have ho' : decide (16000 < (s.size : Int)) = false := by simpa using ho
    rw [ho'] at HO
    clear ho ho'
    cases hX : lexO false l with
    | error n =>
      rw [hX] at HP HE
      have hn : ((n : Int) != 0) = true := by have := HE.out n rfl; simp; omega
      clear HE HB HW HLn Hsz HFA hX
      go_enter Tryd.func3, Tryd.ntmps3
      go_wp2_with fail
      refine (HO.out _).mono ?_
      rintro e w1 ⟨rfl, rfl⟩
      go_wp2_with fail
      refine (HP.out _ (Gr.refl _)).mono ?_
      rintro e w3 ⟨⟨p, rfl⟩, g3⟩
      have G3 := Lib.hid g3
      clear g3
      go_wp2_with fail
      refine (HK.out _).mono ?_
      rintro e w4 ⟨rfl, g4⟩
      have G4 := Lib.hid (G3.out.trans g4)
      clear g4
      go_wp2
      go_ret
      exact ⟨rfl, G4.out⟩
    | ok r =>
      rw [hX] at HP
      obtain ⟨b1, b2⟩ := HB.out r hX
      have hw := HW.out r hX
      have hl := HLn.out r hX
      have hwg : wgts (toksOf r.1) ≤ 1000000 := by omega
      have Hwg := Lib.hid hwg
      obtain ⟨J, hJ⟩ : ∃ J, J = joinL true (toksOf r.1) := ⟨_, rfl⟩
      rw [← hJ] at b1 b2
      have HJ := Lib.hid hJ
      have HJoin := Lib.hid (fun W v (g : Gr w W) (hl : TksIs W v (toksOf r.1)) (KV : Value) (hKV : KV = joinV (lexO false J) J (toksOf r.1)) =>
        join_p W hl hwg KV (by rw [← hJ]; exact hKV) (fun W2 g2 => by
          rw [← hJ]
          have := lexq_p (ba J) W2 (fun W3 g3 => HFA.out W3 (g.trans (g2.trans g3)))
          rwa [ba_data] at this))
      have HLex2 := Lib.hid (fun W (g : Gr w W) => (by
          have := lexq_p (ba J) W (fun W3 g3 => HFA.out W3 (g.trans g3))
          rwa [ba_data] at this : Calls Tryd.prog 6 #[.string (ba J)] W (LexQ W (lexO false J))))
      clear HE HB HW HLn HFA hJ hX
      by_cases h4 : 4000 < J.length
      · have hx : lexO false J = .error 3 := by unfold lexO; rw [if_pos h4]
        have h3 := b1 h4
        rw [hx] at HJoin
        have HJ2 := Lib.hid (fun W v (g : Gr w W) (hl : TksIs W v (toksOf r.1)) => HJoin.out W v g hl (.tuple #[.string ⟨#[]⟩, .int .i64 3]) rfl)
        have e1 : 4000 < (3 : Int) * (s.size : Int) := by have := Hsz.out; omega
        have e2 : (3 : Int) * (s.size : Int) ≤ 9223372036854775807 := by have := Hsz.out; omega
        have e3 : -9223372036854775808 ≤ (3 : Int) * (s.size : Int) := by omega
        clear HJoin HLex2 h4 hx b1 b2 hw hwg h3 Hsz
        go_enter Tryd.func3, Tryd.ntmps3
        go_wp2_with fail
        refine (HO.out _).mono ?_
        rintro e w1 ⟨rfl, rfl⟩
        go_wp2_with fail
        refine (HP.out _ (Gr.refl _)).mono ?_
        rintro e w3 ⟨⟨tv, m, rfl, hT⟩, hl3, g3⟩
        have G3 := Lib.hid g3
        have T3 := Lib.hid hT
        clear g3 hT hl3
        go_wp2_with fail
        refine (HJ2.out _ _ G3.out T3.out).mono ?_
        rintro e w4 ⟨rfl, g4⟩
        have G4 := Lib.hid (G3.out.trans g4)
        clear g4
        go_wp2_with fail
        refine (HK.out _).mono ?_
        rintro e w5 ⟨rfl, g5⟩
        have G5 := Lib.hid (G4.out.trans g5)
        clear g5
        go_wp2
        go_ret
        exact ⟨rfl, G5.out⟩
      · obtain ⟨r2, hx, hs1, hs2⟩ := b2 (by omega)
        rw [hx] at HJoin HLex2
        have HJ2 := Lib.hid (fun W v (g : Gr w W) (hl : TksIs W v (toksOf r.1)) => HJoin.out W v g hl (.tuple #[.string (ba J), .int .i64 0]) (by unfold joinV; simp only; rw [if_pos hs2]))
        have HS := Lib.hid (fun W a b (hk : TksIs W a (toksOf r.1)) (hl : TksIs W b (toksOf r2.1)) (h : (toksOf r.1).length ≤ 9223372036854775807) => Same_p W hk hl h)
        rw [hs1] at HS
        generalize ba J = u at *
        clear HJoin h4 hx b1 b2 hw hwg Hsz hs1 hs2
        go_enter Tryd.func3, Tryd.ntmps3
        go_wp2_with fail
        refine (HO.out _).mono ?_
        rintro e w1 ⟨rfl, rfl⟩
        go_wp2_with fail
        refine (HP.out _ (Gr.refl _)).mono ?_
        rintro e w3 ⟨⟨tv, m, rfl, hT⟩, hl3, g3⟩
        have G3 := Lib.hid g3
        have T3 := Lib.hid hT
        have L3 := Lib.hid hl3
        clear g3 hT hl3
        go_wp2_with fail
        refine (HJ2.out _ _ G3.out T3.out).mono ?_
        rintro e w4 ⟨rfl, g4⟩
        have G4 := Lib.hid (G3.out.trans g4)
        have T4 := Lib.hid (T3.out.gr g4)
        clear g4
        go_wp2_with fail
        refine (HLex2.out _ G4.out).mono ?_
        rintro e w5 ⟨⟨tv2, m2, rfl, hT2⟩, _, g5⟩
        have G5 := Lib.hid (G4.out.trans g5)
        have T5 := Lib.hid (T4.out.gr g5)
        have U5 := Lib.hid hT2
        clear g5 hT2
        go_wp2_with fail
        refine (HS.out _ _ _ T5.out U5.out (by rw [toksOf_len]; have := L3.out; omega)).mono ?_
        rintro e w6 ⟨rfl, g6⟩
        have G6 := Lib.hid (G5.out.trans g6)
        clear g6
        go_wp2_with fail
        refine (HK.out _).mono ?_
        rintro e w7 ⟨rfl, g7⟩
        have G7 := Lib.hid (G6.out.trans g7)
        clear g7
        go_wp2
        go_ret
        exact ⟨rfl, G7.out⟩
end Go.Proofs.YthmopindibdhnaaDoor.G
namespace Go.Proofs.YthmopindibdhnaaDoor.G
open Go.RowKit Go.Shelf Go.Maps
theorem wextra : WhiteExtra Tryd.prog Tryd.lays157_ren where
  n6 := by kernel_rfl
  y6 := by kernel_rfl
  c3 := by kernel_rfl
  c49 := by kernel_rfl
  c193 := by kernel_rfl
  c194 := by kernel_rfl
  c196 := by kernel_rfl
  c198 := by kernel_rfl
theorem fields_of {W : World} (h : laidMet Tryd.prog [("unicode.White_Space", Rows.laid_unicode_White_Space), ("strings.asciiSpace", Rows.laid_strings_asciiSpace)] W) : ∀ W', Gr W W' → FieldsAt W' := by
  have r1 := Lib.laidMet.reads h (List.Mem.head _)
  have e1 : (Rows.laid_unicode_White_Space : DataW Unit) = Lib.whiteData := by kernel_rfl
  rw [e1] at r1
  have e2 : (Rows.laid_strings_asciiSpace : DataW Unit) = Lib.tabData .u8 Lib.asciiSpaceTab := by kernel_rfl
  have h2 := laidMet.tail h
  rw [e2] at h2
  exact fields_at (Lib.tabIs_of_head (g := 1) (t := 99) (e := 5) (n := 256) (by kernel_rfl) (by kernel_rfl) Tryd.underlying99 Tryd.underlying5 (by kernel_rfl) (by kernel_rfl) h2) (whiteTab_of_reads { Tryd.lays157 with } wextra r1)
end Go.Proofs.YthmopindibdhnaaDoor.G
