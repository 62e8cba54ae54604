import Derived.Test.YthmopindibdhnaaGreatDoorQ00
import Derived.Test.YthmopindibdhnaaGreatDoorQ37
import Derived.StillTailTactics
import Derived.Test.YthmopindibdhnaaGreatDoorQ30
import Derived.Test.YthmopindibdhnaaGreatDoorQ20
import Derived.Deep.CutRange
import Derived.Test.YthmopindibdhnaaGreatDoorRows
import Derived.ProofKit
import Derived.OpenShut
import Derived.Lib.SmallJoins
import Derived.SizedLaws
import Derived.Deep.Slices
import Derived.Lib.LaidU8
import Derived.Lib.LaidTab
import Derived.Stop.LaidErr
namespace Go.Proofs.YthmopindibdhnaaGreatDoor.G
open Go.RowKit Go.Shelf Go.Maps
theorem TokAt.oth {W W' : World} {b B : Nat} {t : Tok} (h : TokAt W b t) (k : Oth B W W') (hne : b ≠ B) : TokAt W' b t :=
 k b _ h (fun e => hne (by injection e)) (fun c fz e => by injection e with _ e _; exact absurd e (by decide))
theorem wgts_mem : ∀ {l : List Tok} {i : Nat} (h : i < l.length), wgt l[i] + 1 ≤ wgts l
 | t :: l, 0, _ => by unfold wgts; simp only [List.map_cons, List.sum_cons, List.getElem_cons_zero]; omega
 | t :: l, i + 1, h => by
  have := wgts_mem (l := l) (i := i) (by simpa using h)
  unfold wgts at this ⊢
  simp only [List.map_cons, List.sum_cons, List.getElem_cons_succ]
  omega
theorem joinL_at {l : List Tok} {i : Nat} (h : i < l.length) (term : Bool) : joinL term (l.drop i) = wrB l[i] ++ (sepB l[i] (l.drop (i + 1)) term ++ joinL (afterB l[i] term) (l.drop (i + 1))) := by
 rw [List.drop_eq_getElem_cons h, joinL]
theorem sepB_on {t : Tok} {l : List Tok} {i : Nat} (h : i < l.length) (term : Bool) : sepB t (l.drop i) term = if tightB t l[i] term = true then [] else [32] := by
 rw [List.drop_eq_getElem_cons h, sepB]
theorem sepB_off {t : Tok} {l : List Tok} {i : Nat} (h : l.length ≤ i) (term : Bool) : sepB t (l.drop i) term = [] := by
 rw [List.drop_eq_nil_of_le h, sepB]
set_option maxRecDepth 100000 in
set_option maxHeartbeats 4000000 in
theorem joined_p {v : Value} {l : List Tok} (w : World) (hl : TksIs w v l) (hw : wgts l ≤ 1000000) : Calls Tryz.prog 27 #[v] w fun e w' => e = .returned (.string (ba (joinL true l))) ∧ Gr w w' := by
 obtain ⟨a1, cap1, rfl, hc1⟩ := hl
 have Hc1 := Lh hc1
 have Hm := Lh (fun i (h : i < l.length) => (show wgt l[i] + 1 ≤ 1000000 by have := wgts_mem h; omega))
 have hJ := joinL_len true l
 have Hat := Lh (fun i (h : i < l.length) term => joinL_at h term)
 have Hon := Lh (fun t i (h : i < l.length) term => sepB_on (t := t) h term)
 have Hoff := Lh (fun t i (h : l.length ≤ i) term => sepB_off (t := t) h term)
 have hn : l.length ≤ 1000000 := by
  have : ∀ m : List Tok, m.length ≤ wgts m := fun m => by
   induction m with
   | nil => exact Nat.le_refl _
   | cons t m ih => unfold wgts at ih ⊢; simp only [List.length_cons, List.map_cons, List.sum_cons]; omega
  have := this l
  omega
 obtain ⟨J, hJe⟩ : ∃ J, J = joinL true l := ⟨_, rfl⟩
 rw [← hJe] at hJ ⊢
 have HJ0 : Hid (J = [] ++ joinL true (l.drop 0)) := Lh (by rw [hJe]; simp)
 have HJl : Hid (J.length ≤ 1000000) := Lh (by omega)
 have Hn := Lh hn
 clear hc1 hJ hJe hw hn
 go_enter Tryz.func27, Tryz.ntmps27
 go_wp2_with fail
 generalize hW : w.alloc (.cells #[.pointer none, .slice none 0 0] 74) = W1
 have G1 : Hid (Gr w W1) := Lh (by rw [← hW]; exact (Gr.refl w).alloc _)
 have hBl : Hid (Bld w.heap.size [] W1) := Lh (by rw [← hW]; exact bld_new w)
 have hsz1 : Hid (W1.heap.size = w.heap.size + 1) := Lh (by rw [← hW]; simp)
 clear hW
 go_loopw [4, 5, 6, 9] (fun tv _ _ iv wr => ∃ (i : Nat) (term : Bool) (u : List UInt8), iv = .int .i64 (i : Int) ∧ tv = .bool term ∧ i ≤ l.length ∧ Hid (J = u ++ joinL term (l.drop i)) ∧ Hid (Bld w.heap.size u wr) ∧ Hid (Gr w wr) ∧ Hid (w.heap.size + 1 ≤ wr.heap.size)) (fun _ _ _ iv _ => leftTo l.length iv)
 case atStart => exact ⟨0, true, [], rfl, rfl, Nat.zero_le _, HJ0, hBl, G1, Lh (by rw [hsz1.out]; exact Nat.le_refl _)⟩
 case round =>
  obtain ⟨i, term, u, rfl, rfl, hi, HJ, Bl, Gg, Z⟩ := hrel
  clear hBl hsz1 G1 HJ0
  by_cases hc : i < l.length
  ·have hci : (i : Int) < (l.length : Int) := by omega
   obtain ⟨b1, o1, rfl, hb1, x0, x1, x2, x3, x4, x5⟩ := Hc1.out i hc
   rw [← cell_gr Gg.out hb1] at x0 x1 x2 x3 x4 x5
   obtain ⟨m, hm⟩ : ∃ m, m = i + 1 := ⟨_, rfl⟩
   have hm1 : (i : Int) + 1 = (m : Int) := by omega
   have hm2 : (m : Int) ≤ 9223372036854775807 := by have := Hn.out; omega
   have hm3 : -9223372036854775808 ≤ (m : Int) := by omega
   have hm4 : IntKind.i64.wrap (m : Int) = (m : Int) := by rw [IntKind.wrap_i64]; omega
   have Hmi1 := Lh hm
   have HA := Lh (Hat.out i hc term)
   rw [← hm] at HA
   have Hmi := Lh (Hm.out i hc)
   have Hul : Hid (u.length ≤ 1000000) := Lh (by have := HJl.out; rw [HJ.out, List.length_append] at this; omega)
   obtain ⟨t, ht⟩ : ∃ t, t = l[i] := ⟨_, rfl⟩
   have Ht := Lh (fun (h : i < l.length) => (show t = l[i] from ht))
   rw [← ht] at x0 x1 x2 x3 x4 x5 HA Hmi
   have hts : t.text.size + t.repl.size + t.more.size ≤ 1000000 := by have := Hmi.out; unfold wgt at this; omega
   have HWr := Lh (fun w => wr_p t.kind t.place t.opn t.text t.repl t.more hts w)
   have HBh := Lh (fun w => behind_p t.kind t.place t.text t.repl t.more t.opn term w)
   have hwl := wrB_len t
   have Hwl : Hid ((wrB t).length ≤ 1000000) := Lh (by have := Hmi.out; omega)
   have GA : Hid (Gr wr (wr.alloc (.cells #[.int .i64 t.kind, .int .i64 t.place, .string t.text, .string t.repl, .string t.more, .int .i64 t.opn] 42))) := Lh ((Gr.refl wr).alloc _)
   have TA : Hid (TokAt (wr.alloc (.cells #[.int .i64 t.kind, .int .i64 t.place, .string t.text, .string t.repl, .string t.more, .int .i64 t.opn] 42)) wr.heap.size t) := Lh (heap_alloc_new wr _)
   have hXB : wr.heap.size ≠ w.heap.size := by have := Z.out; omega
   have HXB := Lh hXB
   have HcI := Lh hc
   obtain ⟨y0, y1, y2, y3, y4, y5⟩ := TA.out.cells
   clear ht hts hwl hXB hc hi hm
   go_wp2_with fail
   refine (HWr.out _).mono ?_
   rintro e2 w2 ⟨rfl, g2⟩
   have G2 := Lh (Gg.out.trans (GA.out.trans g2))
   have T2 := Lh (TA.out.gr g2)
   have B2 := Lh (Bld.gr' Bl.out (GA.out.trans g2))
   have Z2 : Hid (w.heap.size + 1 ≤ w2.heap.size) := Lh (Nat.le_trans Z.out (GA.out.trans g2).size)
   clear g2 x0 x1 x2 x3 x4 x5 y0 y1 y2 y3 y4 y5
   go_wp2_with fail
   refine (bld_string (ba (wrB t)) B2.out (by rw [ba_len]; have := Hul.out; have := Hwl.out; omega) (by have := Z2.out; omega)).mono ?_
   rintro e3 w3 ⟨rfl, hl3, hb3, ho3⟩
   rw [ba_data] at hl3
   have B3 := Lh hl3
   have G3 := Lh (Gr.below' G2.out hb3)
   have T3 := Lh (T2.out.oth ho3 HXB.out)
   have Z3 : Hid (w.heap.size + 1 ≤ w3.heap.size) := Lh (Nat.le_trans Z2.out hb3.size)
   clear hl3 hb3 ho3 B2 G2 T2 Z2
   obtain ⟨y0, y1, y2, y3, y4, y5⟩ := T3.out.cells
   by_cases hlast : m < l.length
   ·have hli : (m : Int) < (l.length : Int) := by omega
    obtain ⟨b2, o2, he2, hb2, z0, z1, z2, z3, z4, z5⟩ := Hc1.out m hlast
    have HS := Lh (Hon.out t m hlast term)
    obtain ⟨q, hq⟩ : ∃ q, q = l[m] := ⟨_, rfl⟩
    have Hmq := Lh (Hm.out m hlast)
    rw [← hq] at z0 z1 z2 z3 z4 z5 HS Hmq
    injection he2 with he2
    injection he2 with e1 e3 _
    subst e1
    subst e3
    rw [← cell_gr G3.out hb2] at z0 z1 z2 z3 z4 z5
    have hqs : q.text.size + q.repl.size + q.more.size ≤ 1000000 := by have := Hmq.out; unfold wgt at this; omega
    have HT := Lh (fun w => tight_p t q hqs term w)
    generalize tightB t q term = tb at *
    clear hq hqs hlast
    go_wp2_with fail
    go_still_tail 13, (by kernel_rfl)
    change wpList _ _ _ _ _ w3.drew
    generalize hW4 : w3.drew = W4
    have gd : Gr w3 W4 := by rw [← hW4]; exact (Gr.refl w3).drew
    have G4 := Lh (G3.out.trans gd)
    have T4 := Lh (T3.out.gr gd)
    have B4 := Lh (Bld.gr' B3.out gd)
    have Z4 : Hid (w.heap.size + 1 ≤ W4.heap.size) := Lh (Nat.le_trans Z3.out gd.size)
    clear hW4 gd y0 y1 y2 y3 y4 y5 z0 z1 z2 z3 z4 z5 B3 G3 T3 Z3
    go_wp2_with fail
    refine (HT.out _).mono ?_
    rintro e5 w5 ⟨rfl, g5⟩
    have G5 := Lh (G4.out.trans g5)
    have T5 := Lh (T4.out.gr g5)
    have B5 := Lh (Bld.gr' B4.out g5)
    have Z5 : Hid (w.heap.size + 1 ≤ w5.heap.size) := Lh (Nat.le_trans Z4.out g5.size)
    clear g5 B4 G4 T4 Z4
    obtain ⟨y0, y1, y2, y3, y4, y5⟩ := T5.out.cells
    cases tb with
    | true =>
     go_wp2_with fail
     refine (HBh.out _).mono ?_
     rintro e7 w7 ⟨rfl, g7⟩
     have G7 := Lh (G5.out.trans g7)
     have B7 := Lh (Bld.gr' B5.out g7)
     have Z7 : Hid (w.heap.size + 1 ≤ w7.heap.size) := Lh (Nat.le_trans Z5.out g7.size)
     clear g7
     go_wp2_with fail
     go_roundw
     case rel => exact ⟨m, _, _, rfl, rfl, by have := Hmi1.out; have := HcI.out; omega, Lh (by rw [HJ.out, HA.out, HS.out]; simp [afterB]), B7, G7, Z7⟩
     case measure => have := HcI.out; have := Hmi1.out; simp only [leftTo]; omega
    | false =>
     go_wp2_with fail
     refine (bld_byte 32 B5.out (by rw [List.length_append]; have := Hul.out; have := Hwl.out; omega) (by have := Z5.out; omega)).mono ?_
     rintro e6 w6 ⟨rfl, hl6, hb6, ho6⟩
     have B6 := Lh hl6
     have G6 := Lh (Gr.below' G5.out hb6)
     have T6 := Lh (T5.out.oth ho6 HXB.out)
     have Z6 : Hid (w.heap.size + 1 ≤ w6.heap.size) := Lh (Nat.le_trans Z5.out hb6.size)
     clear hl6 hb6 ho6 B5 G5 T5 Z5 y0 y1 y2 y3 y4 y5
     obtain ⟨y0, y1, y2, y3, y4, y5⟩ := T6.out.cells
     go_wp2_with fail
     refine (HBh.out _).mono ?_
     rintro e7 w7 ⟨rfl, g7⟩
     have G7 := Lh (G6.out.trans g7)
     have B7 := Lh (Bld.gr' B6.out g7)
     have Z7 : Hid (w.heap.size + 1 ≤ w7.heap.size) := Lh (Nat.le_trans Z6.out g7.size)
     clear g7
     go_wp2_with fail
     go_roundw
     case rel => exact ⟨m, _, _, rfl, rfl, by have := Hmi1.out; have := HcI.out; omega, Lh (by rw [HJ.out, HA.out, HS.out]; simp [afterB]), B7, G7, Z7⟩
     case measure => have := HcI.out; have := Hmi1.out; simp only [leftTo]; omega
   ·have hli : decide ((m : Int) < (l.length : Int)) = false := by simp; omega
    have hli2 : ¬ (m : Int) < (l.length : Int) := by omega
    have hli3 : decide (m < l.length) = false := decide_eq_false hlast
    have HS := Lh (Hoff.out t m (by omega) term)
    clear hlast
    go_wp2_with fail
    go_quiet (fail)
    have gd : Gr w3 (w3.drewN nq) := (Gr.refl w3).drewN _
    generalize w3.drewN nq = W4 at *
    have G5 := Lh (G3.out.trans gd)
    have T5 := Lh (T3.out.gr gd)
    have B5 := Lh (Bld.gr' B3.out gd)
    have Z5 : Hid (w.heap.size + 1 ≤ W4.heap.size) := Lh (Nat.le_trans Z3.out gd.size)
    clear gd y0 y1 y2 y3 y4 y5 B3 G3 T3 Z3
    obtain ⟨y0, y1, y2, y3, y4, y5⟩ := T5.out.cells
    go_wp2_with fail
    refine (HBh.out _).mono ?_
    rintro e7 w7 ⟨rfl, g7⟩
    have G7 := Lh (G5.out.trans g7)
    have B7 := Lh (Bld.gr' B5.out g7)
    have Z7 : Hid (w.heap.size + 1 ≤ w7.heap.size) := Lh (Nat.le_trans Z5.out g7.size)
    clear g7
    go_wp2_with fail
    go_roundw
    case rel => exact ⟨m, _, _, rfl, rfl, by have := Hmi1.out; have := HcI.out; omega, Lh (by rw [HJ.out, HA.out, HS.out]; simp [afterB]), B7, G7, Z7⟩
    case measure => have := HcI.out; have := Hmi1.out; simp only [leftTo]; omega
  ·have hci : decide ((i : Int) < (l.length : Int)) = false := by simp; omega
   have hci2 : ¬ (i : Int) < (l.length : Int) := by omega
   have hci3 : decide (i < l.length) = false := decide_eq_false hc
   have E : Hid (ba J = ⟨u.toArray⟩) := Lh (by rw [HJ.out, List.drop_eq_nil_of_le (by omega), joinL, List.append_nil]; rfl)
   clear hc
   go_wp2_with fail
   refine (bld_text Bl.out (by have := Z.out; omega)).mono ?_
   rintro e2 w3 ⟨rfl, hb3⟩
   have G3 := Lh (Gr.below' Gg.out hb3)
   clear hb3
   go_wp2
   go_ret
   exact ⟨by rw [E.out]; rfl, G3.out⟩
theorem toks_own {w : World} {base : Nat} {v : Value} {l : List Tok} (h : OwnT w base v l) : TksIs w v l := by
 by_cases hl : l = []
 ·obtain ⟨ao, cap, hv⟩ := ownsRow_shape h
  exact ⟨ao, cap, hv, fun i hi => by rw [hl] at hi; exact absurd hi (Nat.not_lt_zero _)⟩
 ·have hne : 0 < l.length := List.length_pos_iff.2 hl
  obtain ⟨g, cap, hv, _⟩ := tok_at h hne
  refine ⟨_, cap, hv, fun k hk => ?_⟩
  obtain ⟨g2, cap2, hv2, _, hlt, c⟩ := tok_at h hk
  rw [hv] at hv2
  injection hv2 with e1 _ _
  injection e1 with e1
  injection e1 with e1 _ _
  subst e1
  refine ⟨g, 0, rfl, hlt, ?_⟩
  simp only [Nat.zero_add]
  exact c
def LexQ (w : World) (X : Except Nat (List RTok × List Bool)) (e : Ending) (w' : World) : Prop :=
 match X with
 | .error n => (∃ p : Int, e = .returned (.tuple #[.slice none 0 0, .int .i64 p, .int .i64 (n : Int)])) ∧ Gr w w'
 | .ok r => (∃ tv m, e = .returned (.tuple #[tv, .int .i64 m, .int .i64 0]) ∧ TksIs w' tv (toksOf r.1)) ∧ r.1.length ≤ 1000 ∧ Gr w w'
theorem lexq_p (s : ByteArray) (w : World) (hFA : ∀ W, Gr w W → FieldsAt W) : Calls Tryz.prog 18 #[.string s] w (LexQ w (lexO false s.data.toList)) := by
 refine (lex_g (s := s) w hFA).mono fun e w' h => ?_
 cases hx : lexO false s.data.toList with
 | error n => rw [hx] at h; obtain ⟨⟨p, _, h1⟩, h2⟩ := h; exact ⟨⟨_, h1⟩, h2⟩
 | ok r => rw [hx] at h; obtain ⟨tv, h1, h2, _, h3, h4⟩ := h; exact ⟨⟨tv, _, h1, toks_own h2⟩, h3, h4⟩
theorem lexq_r (s : ByteArray) (w : World) : Calls Tryz.prog 25 #[.string s] w (LexQ w (lexO false s.data.toList)) := by
 refine (lex_r s w).mono fun e w' h => ?_
 rw [lexO_two] at h
 cases hx : lexO false s.data.toList with
 | error n => rw [hx] at h; obtain ⟨⟨p, h1⟩, h2⟩ := h; exact ⟨⟨_, h1⟩, h2⟩
 | ok r => rw [hx] at h; obtain ⟨tv, h1, h2, h3, h4⟩ := h; exact ⟨⟨tv, _, h1, toks_own h2⟩, h3, h4⟩
end Go.Proofs.YthmopindibdhnaaGreatDoor.G
namespace Go.Proofs.YthmopindibdhnaaGreatDoor
open Go.RowKit Go.Shelf
variable {k l : List Tok} {n : Nat}
def sameL (k l : List Tok) : Bool := k.length == l.length && alikeN k l == k.length
theorem sameT_refl (t : Tok) : sameT t t = true := by simp [sameT]
theorem alikeN_refl : ∀ k : List Tok, alikeN k k = k.length
 | [] => rfl
 | t :: k => by rw [alikeN, if_pos (sameT_refl t), alikeN_refl k]; rfl
theorem sameL_refl (k : List Tok) : sameL k k = true := by simp [sameL, alikeN_refl]
set_option maxRecDepth 100000 in
set_option maxHeartbeats 2000000 in
theorem Same_p {a b : Value} (w : World) (hk : TksIs w a k) (hl : TksIs w b l) (hkl : k.length ≤ 9223372036854775807) : Calls Tryz.prog 28 #[a, b] w fun e w' => e = .returned (.bool (sameL k l)) ∧ Gr w w' := by
 have HA := Lh (alike_p w hk hl hkl)
 obtain ⟨a1, cap1, rfl, _⟩ := hk
 obtain ⟨a2, cap2, rfl, _⟩ := hl
 by_cases he : k.length = l.length
 ·have t0 : ((k.length : Int) == (l.length : Int)) = true := by rw [he]; simp
  by_cases hn : alikeN k l = k.length
  ·have E : sameL k l = true := by unfold sameL; rw [hn]; simp [he]
   have t1 : ((alikeN k l : Int) == (k.length : Int)) = true := by rw [hn]; simp
   rw [E]
   generalize alikeN k l = n at *
   clear E he hn
   go_enter Tryz.func28, Tryz.ntmps28
   go_wp2_with fail
   refine HA.out.mono ?_
   rintro e w2 ⟨rfl, g⟩
   go_wp2
   go_ret
   exact ⟨rfl, g⟩
  ·have E : sameL k l = false := by
    have : (alikeN k l == k.length) = false := by simpa using hn
    unfold sameL; rw [this]; simp
   have t1 : ((alikeN k l : Int) == (k.length : Int)) = false := by simp; omega
   rw [E]
   generalize alikeN k l = n at *
   clear E he hn
   go_enter Tryz.func28, Tryz.ntmps28
   go_wp2_with fail
   refine HA.out.mono ?_
   rintro e w2 ⟨rfl, g⟩
   go_wp2
   go_ret
   exact ⟨rfl, g⟩
 ·have t0 : ((k.length : Int) == (l.length : Int)) = false := by simp; omega
  have E : sameL k l = false := by
   have : (k.length == l.length) = false := by simpa using he
   unfold sameL; rw [this]; simp
  rw [E]
  clear E he HA
  go_enter Tryz.func28, Tryz.ntmps28
  go_wp2
  go_ret
  exact ⟨rfl, Gr.refl w⟩
set_option maxRecDepth 100000 in
set_option maxHeartbeats 2000000 in
theorem Same_r {a b : Value} (w : World) (hk : TksIs w a k) (hl : TksIs w b l) (hkl : k.length ≤ 9223372036854775807) : Calls Tryz.prog 26 #[a, b] w fun e w' => e = .returned (.bool (sameL k l)) ∧ Gr w w' := by
 obtain ⟨a1, cap1, rfl, hc1⟩ := hk
 obtain ⟨a2, cap2, rfl, hc2⟩ := hl
 by_cases he : k.length = l.length
 ·have t0 : ((k.length : Int) != (l.length : Int)) = false := by rw [he]; simp
  have Hc1 := Lh hc1
  have Hc2 := Lh hc2
  have Hkl := Lh hkl
  have He := Lh he
  clear hc1 hc2 hkl
  have HR : Hid (alikeN k l = 0 + alikeN (k.drop 0) (l.drop 0)) := Lh (by simp)
  have HQ : Hid (sameL k l = (alikeN k l == k.length)) := Lh (by unfold sameL; simp [he])
  generalize alikeN k l = R at *
  generalize sameL k l = A at *
  have HS := Lh (fun t u w => tokSame_r t u w)
  clear he
  go_enter Tryz.func26, Tryz.ntmps26
  go_wp2_with fail
  clear t0
  go_loopw [5] (fun nv wr => ∃ n : Nat, nv = .int .i64 (n : Int) ∧ n ≤ k.length ∧ Gr w wr ∧ Hid (R = n + alikeN (k.drop n) (l.drop n))) (fun nv _ => leftTo k.length nv)
  case atStart => exact ⟨0, rfl, Nat.zero_le _, Gr.refl w, HR⟩
  case round =>
   obtain ⟨n, rfl, hn, hg, hR⟩ := hrel
   have Hg := Lh hg
   clear hg HR
   by_cases h1 : n < k.length
   ·have h2 : n < l.length := by have := He.out; omega
    obtain ⟨b1, o1, rfl, hb1, x0, x1, x2, x3, x4, x5⟩ := Hc1.out n h1
    obtain ⟨b2, o2, rfl, hb2, y0, y1, y2, y3, y4, y5⟩ := Hc2.out n h2
    rw [← cell_gr Hg.out hb1] at x0 x1 x2 x3 x4 x5
    rw [← cell_gr Hg.out hb2] at y0 y1 y2 y3 y4 y5
    have i1 : (n : Int) < (k.length : Int) := by omega
    have i2 : (n : Int) < (l.length : Int) := by omega
    have hS := Lh (fun w => HS.out k[n] l[n] w)
    have Hon := Lh (fun hs => alikeN_on h1 h2 hs)
    have Hoff := Lh (fun hs => alikeN_off h1 h2 hs)
    rw [show Tok.val k[n] = .agg #[.int .i64 k[n].kind, .int .i64 k[n].place, .string k[n].text, .string k[n].repl, .string k[n].more, .int .i64 k[n].opn] from rfl, show Tok.val l[n] = .agg #[.int .i64 l[n].kind, .int .i64 l[n].place, .string l[n].text, .string l[n].repl, .string l[n].more, .int .i64 l[n].opn] from rfl] at hS
    have Hn1 : Hid (n < k.length ∧ n ≤ 9223372036854775807) := Lh (by have := Hkl.out; omega)
    have b1' : (n : Int) + 1 ≤ 9223372036854775807 := by have := Hkl.out; omega
    have b2' : -9223372036854775808 ≤ (n : Int) + 1 := by omega
    generalize sameT k[n] l[n] = same at *
    generalize k[n] = t at *
    generalize l[n] = u at *
    clear HS Hc1 Hc2 h1 h2 hn hb1 hb2
    cases same
    ·have E : Hid (A = false) := Lh (by
      have h3 : R = n := by rw [hR.out, Hoff.out rfl]; omega
      have := Hn1.out
      rw [HQ.out, h3]
      simp; omega)
     clear Hon Hoff hR
     go_wp2_with fail
     go_still_tail 8, (by kernel_rfl)
     change wpList _ _ _ _ _ wr.drew
     generalize hW2 : wr.drew = w2
     have G2 := Lh (by rw [← hW2]; exact Hg.out.drew : Gr w w2)
     clear hW2 x0 x1 x2 x3 x4 x5 y0 y1 y2 y3 y4 y5
     go_wp2_with fail
     refine (hS.out _).mono ?_
     rintro e9 w9 ⟨rfl, g9⟩
     have G9 := Lh (G2.out.trans g9)
     clear g9
     go_wp2_with fail
     go_ret
     rw [E.out]
     exact ⟨rfl, G9.out⟩
    ·have HE := Lh (Hon.out rfl)
     clear Hon Hoff
     go_wp2_with fail
     go_still_tail 8, (by kernel_rfl)
     change wpList _ _ _ _ _ wr.drew
     generalize hW2 : wr.drew = w2
     have G2 := Lh (by rw [← hW2]; exact Hg.out.drew : Gr w w2)
     clear hW2 x0 x1 x2 x3 x4 x5 y0 y1 y2 y3 y4 y5
     go_wp2_with fail
     refine (hS.out _).mono ?_
     rintro e9 w9 ⟨rfl, g9⟩
     have G9 := Lh (G2.out.trans g9)
     clear g9
     go_wp2_with fail
     go_roundw
     case rel => have := Hn1.out; exact ⟨n + 1, rfl, by omega, G9.out, Lh (by rw [hR.out, HE.out]; omega)⟩
     case measure => have := Hn1.out; simp only [leftTo]; omega
   ·have i1 : decide ((n : Int) < (k.length : Int)) = false := by simp; omega
    have i3 : decide (n < k.length) = false := by simpa using h1
    have E : Hid (A = true) := Lh (by
     have h3 : R = n := by rw [hR.out, alikeN_end1 h1]; omega
     rw [HQ.out, h3]
     simp; omega)
    clear hR HS Hc1 Hc2 h1 hn
    go_wp2_with fail
    go_ret
    rw [E.out]
    exact ⟨rfl, Hg.out⟩
 ·have t0 : ((k.length : Int) != (l.length : Int)) = true := by simp; omega
  have E : sameL k l = false := by
   have : (k.length == l.length) = false := by simpa using he
   unfold sameL; rw [this]; simp
  rw [E]
  clear E he hc1 hc2
  go_enter Tryz.func26, Tryz.ntmps26
  go_wp2
  go_ret
  exact ⟨rfl, Gr.refl w⟩
end Go.Proofs.YthmopindibdhnaaGreatDoor
namespace Go.Proofs.YthmopindibdhnaaGreatDoor.G
open Go.RowKit Go.Shelf Go.Maps
set_option maxRecDepth 100000 in
theorem begins_s (s : ByteArray) (w : World) : Calls Tryz.prog 23 #[.string s, .string ⟨#[36]⟩] w fun e w' => e = .returned (.bool (s.data.toList.head? == some 36)) ∧ w = w' := by
 by_cases h : 0 < s.size
 ·have h1 : (s.size : Int) > 0 := by omega
  have h2 : (1 : Int) ≤ (s.size : Int) := by omega
  have h3 : ((s.extract 0 1).toList == [36]) = (s.data.toList.head? == some 36) := by
   rw [ByteArray.toList_eq, takeB]
   have hl : 0 < s.data.toList.length := by rw [sizeL]; exact h
   match hb : s.data.toList, hl with
   | c :: t, _ => simp
  rw [← h3]
  clear h3
  generalize hb : ((s.extract 0 1).toList == [36]) = b
  go_enter Tryz.func23, Tryz.ntmps23
  go_wp2
  all_goals
   go_ret
   exact ⟨by first | rfl | (rw [← hb]; rfl), rfl⟩
 ·have h1 : ¬ (s.size : Int) > 0 := by omega
  have h1b : decide ((0 : Int) < (s.size : Int)) = false := decide_eq_false (by omega)
  have h1c : decide (0 < s.size) = false := decide_eq_false h
  have h3 : s.data.toList = [] := List.eq_nil_of_length_eq_zero (by rw [sizeL]; omega)
  rw [h3]
  clear h h3
  go_enter Tryz.func23, Tryz.ntmps23
  go_wp2
  go_ret
  exact ⟨rfl, rfl⟩
theorem any_two (a b : UInt8) (s : ByteArray) : (([⟨#[a]⟩, ⟨#[b]⟩] : List ByteArray).any fun x => x.toList == s.toList) = (s.data.toList == [a] || s.data.toList == [b]) := by
 simp only [List.any_cons, List.any_nil, ByteArray.toList_eq, Bool.or_false]
 congr 1
 ·rw [BEq.comm]
 ·rw [BEq.comm]
theorem has_two (a b : UInt8) (s : ByteArray) (W : World) : Calls Tryz.prog 22 #[.slice (some ⟨W.heap.size, 0, none⟩) 2 2, .string s] (W.alloc (.cells #[.string ⟨#[a]⟩, .string ⟨#[b]⟩] 9)) fun e w' => e = .returned (.bool (s.data.toList == [a] || s.data.toList == [b])) ∧ W.alloc (.cells #[.string ⟨#[a]⟩, .string ⟨#[b]⟩] 9) = w' := by
 have h := has_r W.heap.size [⟨#[a]⟩, ⟨#[b]⟩] s _ (texts_alloc W [⟨#[a]⟩, ⟨#[b]⟩] 9) (by first | decide | simp)
 rw [any_two] at h
 exact h
def sepR (i : Nat) (sig : Bool) : List Tok → List UInt8
 | [] => []
 | x :: _ => if i = 0 ∨ (subS x || sig) = true then [] else [32]
def nextD (l : List Tok) (i : Nat) : Bool := match l[i]? with
 | none => false
 | some u => dolB u
theorem sep_two (t : Tok) (l : List Tok) (i : Nat) (term : Bool) : sepB t (l.drop (i + 1)) term = sepR (i + 1) (sigT t (nextD l (i + 1)) term) (l.drop (i + 1)) := by
 unfold sepB sepR nextD
 by_cases h : i + 1 < l.length
 ·rw [List.drop_eq_getElem_cons h, List.getElem?_eq_getElem h]
  unfold tightB
  simp
 ·rw [List.drop_eq_nil_of_le (by omega)]
theorem sepR_at {l : List Tok} {i : Nat} (h : i < l.length) (sig : Bool) : sepR i sig (l.drop i) = if i = 0 ∨ (subS l[i] || sig) = true then [] else [32] := by
 rw [List.drop_eq_getElem_cons h]; rfl
def joinV (X : Except Nat (List RTok × List Bool)) (J : List UInt8) (l : List Tok) : Value := match X with
 | .error n => .tuple #[.string ⟨#[]⟩, .int .i64 (n : Int)]
 | .ok r => if sameL (toksOf r.1) l = true then .tuple #[.string (ba J), .int .i64 0] else .tuple #[.string ⟨#[]⟩, .int .i64 1]
set_option maxRecDepth 100000 in
set_option maxHeartbeats 8000000 in
theorem joins_r {v : Value} {l : List Tok} (w : World) (hl : TksIs w v l) (hw : wgts l ≤ 1000000) (hkd : ∀ i (h : i < l.length), 0 ≤ l[i].kind ∧ l[i].kind ≤ 9) (KV : Value)
  (hend : ∀ W, Gr w W → Calls Tryz.prog 25 #[.string (ba (joinL true l))] W (LexQ W (lexO false (joinL true l)))) (hKV : KV = joinV (lexO false (joinL true l)) (joinL true l) l) :
  Calls Tryz.prog 12 #[v] w fun e w' => e = .returned KV ∧ Gr w w' := by
 have HL := Lh hl
 obtain ⟨a1, cap1, rfl, hc1⟩ := hl
 have Hc1 := Lh hc1
 have Hm := Lh (fun i (h : i < l.length) => (show wgt l[i] + 1 ≤ 1000000 by have := wgts_mem h; omega))
 have Hkd := Lh hkd
 have hJ := joinL_len true l
 have Hat := Lh (fun i (h : i < l.length) term => joinL_at h term)
 have Hst := Lh (fun t i term => sep_two t l i term)
 have Hsr := Lh (fun i (h : i < l.length) sig => sepR_at h sig)
 have hn : l.length ≤ 1000000 := by
  have : ∀ m : List Tok, m.length ≤ wgts m := fun m => by
   induction m with
   | nil => exact Nat.le_refl _
   | cons t m ih => unfold wgts at ih ⊢; simp only [List.length_cons, List.map_cons, List.sum_cons]; omega
  have := this l
  omega
 have HEnd := Lh hend
 have HKV := Lh hKV
 obtain ⟨J, hJe⟩ : ∃ J, J = joinL true l := ⟨_, rfl⟩
 rw [← hJe] at hJ HEnd HKV
 have HJ0 : Hid (J = [] ++ (sepR 0 false (l.drop 0) ++ joinL true (l.drop 0))) := Lh (by
  rw [hJe]
  cases l with
  | nil => rfl
  | cons t r => simp [sepR])
 have HJl : Hid (J.length ≤ 1000000) := Lh (by omega)
 have Hn := Lh hn
 clear hc1 hJ hJe hw hn hkd hend hKV
 go_enter Tryz.func12, Tryz.ntmps12
 go_wp2_with fail
 go_loopw [4, 5, 6, 7, 8] (fun ov tv sv iv _ wr => ∃ (i : Nat) (term sig : Bool) (u : ByteArray), iv = .int .i64 (i : Int) ∧ tv = .bool term ∧ sv = .bool sig ∧ ov = .string u ∧ i ≤ l.length ∧ Hid (J = u.data.toList ++ (sepR i sig (l.drop i) ++ joinL term (l.drop i))) ∧ Hid (Gr w wr)) (fun _ _ _ iv _ _ => leftTo l.length iv)
 case atStart => exact ⟨0, true, false, ⟨#[]⟩, rfl, rfl, rfl, rfl, Nat.zero_le _, HJ0, Lh (Gr.refl w)⟩
 case round =>
  obtain ⟨i, term, sig, u, rfl, rfl, rfl, rfl, hi, HJ, Gg⟩ := hrel
  clear HJ0
  by_cases hc : i < l.length
  ·have hci : (i : Int) < (l.length : Int) := by omega
   obtain ⟨b1, o1, rfl, hb1, x0, x1, x2, x3, x4, x5⟩ := Hc1.out i hc
   rw [← cell_gr Gg.out hb1] at x0 x1 x2 x3 x4 x5
   obtain ⟨m, hm⟩ : ∃ m, m = i + 1 := ⟨_, rfl⟩
   have hm1 : (i : Int) + 1 = (m : Int) := by omega
   have hm2 : (m : Int) ≤ 9223372036854775807 := by have := Hn.out; omega
   have hm3 : -9223372036854775808 ≤ (m : Int) := by omega
   have hm4 : IntKind.i64.wrap (m : Int) = (m : Int) := by rw [IntKind.wrap_i64]; omega
   have Hmi1 := Lh hm
   have HA := Lh (Hat.out i hc term)
   have HR := Lh (Hsr.out i hc sig)
   have Hmi := Lh (Hm.out i hc)
   have Hk9 := Lh (Hkd.out i hc)
   have HulJ : Hid (u.size ≤ 1000000) := Lh (by have := HJl.out; rw [HJ.out, List.length_append, sizeL] at this; omega)
   obtain ⟨t, ht⟩ : ∃ t, t = l[i] := ⟨_, rfl⟩
   rw [← ht] at x0 x1 x2 x3 x4 x5 HA Hmi HR Hk9
   have HS := Lh (Hst.out t i term)
   rw [← hm] at HA HS
   have hts : t.text.size + t.repl.size + t.more.size ≤ 1000000 := by have := Hmi.out; unfold wgt at this; omega
   have HWr := Lh (fun w => wr_r t.kind t.place t.opn t.text t.repl t.more hts w)
   have HEx := Lh (fun w => expects_r t.kind t.place t.text t.repl t.more t.opn term w)
   rw [exp_behind Hk9.out] at HEx
   have hwl := wrB_len t
   have hWs : (ba (wrB t)).size ≤ 1000000 := by rw [ba_len]; have := Hmi.out; omega
   have hus := HulJ.out
   have GA : Hid (Gr wr (wr.alloc (.cells #[.int .i64 t.kind, .int .i64 t.place, .string t.text, .string t.repl, .string t.more, .int .i64 t.opn] 42))) := Lh ((Gr.refl wr).alloc _)
   have TA : Hid (TokAt (wr.alloc (.cells #[.int .i64 t.kind, .int .i64 t.place, .string t.text, .string t.repl, .string t.more, .int .i64 t.opn] 42)) wr.heap.size t) := Lh (heap_alloc_new wr _)
   have HcI := Lh hc
   obtain ⟨y0, y1, y2, y3, y4, y5⟩ := TA.out.cells
   have hk3 : (t.kind == 3) = true ∨ (t.kind == 3) = false := by cases (t.kind == 3) <;> simp
   have HSep : Hid ((i = 0 ∨ (subS t || sig) = true) ∨ ¬ (i = 0 ∨ (subS t || sig) = true)) := Lh (Decidable.em _)
   have Htr : t.text.toList = t.text.data.toList := ByteArray.toList_eq _
   have hBle : ∃ bl : Bool, bl = !(decide (i = 0 ∨ (subS t || sig) = true)) := ⟨_, rfl⟩
   obtain ⟨bl, hbl⟩ := hBle
   have HBl : Hid ((if i = 0 ∨ (subS t || sig) = true then [] else [32] : List UInt8) = if bl = true then [32] else []) := Lh (by
    rw [hbl]
    by_cases h : i = 0 ∨ (subS t || sig) = true
    ·rw [if_pos h, decide_eq_true h]; rfl
    ·rw [if_neg h, decide_eq_false h]; rfl)
   clear ht hts hwl hc hi hm HSep
   go_upto_region 7 with fail
   generalize hW0 : wr.alloc (.cells #[.int .i64 t.kind, .int .i64 t.place, .string t.text, .string t.repl, .string t.more, .int .i64 t.opn] 42) = W0 at *
   go_cut [43] from 12 to 86 (fun c wx => c = .bool bl ∧ W0 = wx)
   case first =>
    by_cases hi0 : i = 0
    ·have c0 : ¬ (i : Int) > 0 := by omega
     have c1 : decide ((0 : Int) < (i : Int)) = false := decide_eq_false (by omega)
     have c2 : decide (0 < i) = false := decide_eq_false (by omega)
     have hb : bl = false := by rw [hbl, decide_eq_true (p := (i = 0 ∨ (subS t || sig) = true)) (.inl hi0)]; rfl
     clear hi0 hbl
     go_wp2_with fail
     go_meet
     exact ⟨by rw [hb], rfl⟩
    ·have c0 : (i : Int) > 0 := by omega
     cases sig with
     | true =>
      have hb : bl = false := by rw [hbl, decide_eq_true (p := (i = 0 ∨ (subS t || true) = true)) (.inr (by simp))]; rfl
      clear hi0 hbl
      go_wp2_with fail
      go_meet
      exact ⟨by rw [hb], rfl⟩
     | false =>
      rcases hk3 with hk3 | hk3
      ·cases h123 : (t.text.data.toList == [123]) with
       | false =>
        have h123b : (t.text.toList == [123]) = false := by rw [Htr]; exact h123
        have hb : bl = true := by rw [hbl, decide_eq_false (by rintro (h | h); exact hi0 h; unfold subS isSgT at h; rw [h123] at h; simp at h)]; rfl
        clear hi0 hbl
        go_wp2_with fail
        go_meet
        exact ⟨by rw [hb], rfl⟩
       | true =>
        have h123b : (t.text.toList == [123]) = true := by rw [Htr]; exact h123
        cases h2o : (t.opn == 2) with
        | false =>
         have hb : bl = true := by rw [hbl, decide_eq_false (by rintro (h | h); exact hi0 h; unfold subS isSgT at h; rw [h2o] at h; simp at h)]; rfl
         clear hi0 hbl
         go_wp2_with fail
         go_meet
         exact ⟨by rw [hb], rfl⟩
        | true =>
         have hb : bl = false := by rw [hbl, decide_eq_true (p := (i = 0 ∨ (subS t || false) = true)) (.inr (by unfold subS isSgT; rw [hk3, h123, h2o]; rfl))]; rfl
         clear hi0 hbl
         go_wp2_with fail
         go_meet
         exact ⟨by rw [hb], rfl⟩
      ·have hb : bl = true := by rw [hbl, decide_eq_false (by rintro (h | h); exact hi0 h; unfold subS isSgT at h; rw [hk3] at h; simp at h)]; rfl
       clear hi0 hbl
       go_wp2_with fail
       go_meet
       exact ⟨by rw [hb], rfl⟩
   case rest =>
   obtain ⟨rfl, rfl⟩ := hcut
   clear hbl hk3
   go_upto_if 43 with fail
   go_cut [4] from 12 to 86 (fun o wx => (∃ u2 : ByteArray, o = .string u2 ∧ Hid (u2.data.toList = u.data.toList ++ (if bl = true then [32] else []))) ∧ W0 = wx)
   case first =>
    have hp : ¬ 9223372036854775807 < u.size + 1 := by omega
    cases bl with
    | true =>
     go_wp2_with fail
     go_meet
     exact ⟨⟨_, rfl, Lh (by simp)⟩, rfl⟩
    | false =>
     go_wp2_with fail
     go_meet
     exact ⟨⟨_, rfl, Lh (by simp)⟩, rfl⟩
   case rest =>
   obtain ⟨⟨u2, rfl, HU2⟩, rfl⟩ := hcut
   have hu2 : u2.size ≤ 1000001 := by
    have h1 := congrArg List.length HU2.out
    rw [List.length_append, sizeL, sizeL] at h1
    cases bl <;> simp at h1 <;> omega
   have hp2 : ¬ 9223372036854775807 < u2.size + (ba (wrB t)).size := by omega
   go_wp2_with fail
   refine (HWr.out _).mono ?_
   rintro e2 w2 ⟨rfl, g2⟩
   have G2 := Lh (Gg.out.trans (GA.out.trans g2))
   have T2 := Lh (TA.out.gr g2)
   clear g2 x0 x1 x2 x3 x4 x5 y0 y1 y2 y3 y4 y5
   obtain ⟨y0, y1, y2, y3, y4, y5⟩ := T2.out.cells
   have HTI := Lh T2.out
   go_upto_region 10 with fail
   have hk3 : (t.kind == 3) = true ∨ (t.kind == 3) = false := by cases (t.kind == 3) <;> simp
   go_cut [6] from 12 to 86 (fun sg wx => sg = .bool (sigT t (nextD l m) term) ∧ Hid (Gr w2 wx))
   case first =>
    have W20 := Lh (Gr.refl w2)
    cases term with
    | false =>
     have HSg : Hid (sigT t (nextD l m) false = false) := Lh rfl
     go_wp2_with fail
     go_meet
     exact ⟨by rw [HSg.out], W20⟩
    | true =>
     rcases hk3 with hk3 | hk3
     ·skip
      cases h1 : (t.text.data.toList == [36] || t.text.data.toList == [64]) with
      | true =>
       have HSg : Hid (sigT t (nextD l m) true = true) := Lh (by unfold sigT isSgT; rw [hk3]; simp only [Bool.true_and]; rw [h1]; rfl)
       have HH := Lh (fun W => has_two 36 64 t.text W)
       rw [h1] at HH
       have G3 := Lh (show Gr w2 (w2.alloc (.cells #[.string ⟨#[36]⟩, .string ⟨#[64]⟩] 9)) from (Gr.refl w2).alloc _)
       have T3 := Lh (T2.out.gr G3.out)
       obtain ⟨q0, q1, q2, q3, q4, q5⟩ := T3.out.cells
       go_wp2_with fail
       refine (HH.out w2).mono ?_
       rintro e3 w3 ⟨rfl, rfl⟩
       clear y0 y1 y2 y3 y4 y5
       generalize (w2.alloc (.cells #[.string ⟨#[36]⟩, .string ⟨#[64]⟩] 9)) = V3 at *
       go_wp2_with fail
       go_meet
       exact ⟨by rw [HSg.out], G3⟩
      | false =>
       have HH := Lh (fun W => has_two 36 64 t.text W)
       rw [h1] at HH
       cases h2 : (t.text.data.toList == [37] || t.text.data.toList == [38]) with
       | false =>
        have HSg : Hid (sigT t (nextD l m) true = false) := Lh (by unfold sigT isSgT; rw [hk3]; simp only [Bool.true_and]; rw [h1, h2]; rfl)
        have HH2 := Lh (fun W => has_two 37 38 t.text W)
        rw [h2] at HH2
        have G3 := Lh (show Gr w2 (w2.alloc (.cells #[.string ⟨#[36]⟩, .string ⟨#[64]⟩] 9)) from (Gr.refl w2).alloc _)
        have T3 := Lh (T2.out.gr G3.out)
        obtain ⟨q0, q1, q2, q3, q4, q5⟩ := T3.out.cells
        go_wp2_with fail
        refine (HH.out w2).mono ?_
        rintro e3 w3 ⟨rfl, rfl⟩
        clear y0 y1 y2 y3 y4 y5
        generalize (w2.alloc (.cells #[.string ⟨#[36]⟩, .string ⟨#[64]⟩] 9)) = V3 at *
        have G4 := Lh (G3.out.trans (show Gr V3 (V3.alloc (.cells #[.string ⟨#[37]⟩, .string ⟨#[38]⟩] 9)) from (Gr.refl V3).alloc _))
        have T4 := Lh (T2.out.gr G4.out)
        obtain ⟨y0, y1, y2, y3, y4, y5⟩ := T4.out.cells
        go_wp2_with fail
        refine (HH2.out V3).mono ?_
        rintro e4 w4 ⟨rfl, rfl⟩
        clear q0 q1 q2 q3 q4 q5
        generalize (V3.alloc (.cells #[.string ⟨#[37]⟩, .string ⟨#[38]⟩] 9)) = V4 at *
        go_wp2_with fail
        go_meet
        exact ⟨by rw [HSg.out], G4⟩
       | true =>
        have HH2 := Lh (fun W => has_two 37 38 t.text W)
        rw [h2] at HH2
        by_cases hlast : m < l.length
        ·have hli : (m : Int) < (l.length : Int) := by omega
         obtain ⟨b2, o2, he2, hb2, z0, z1, z2, z3, z4, z5⟩ := Hc1.out m hlast
         injection he2 with he2
         injection he2 with e1 e3 _
         subst e1
         subst e3
         obtain ⟨q, hq⟩ : ∃ q, q = l[m] := ⟨_, rfl⟩
         have Hmq := Lh (Hm.out m hlast)
         have HDn : nextD l m = dolB q := by unfold nextD; rw [List.getElem?_eq_getElem hlast, hq]
         rw [← hq] at z0 z1 z2 z3 z4 z5 Hmq
         have hqs : q.text.size + q.repl.size + q.more.size ≤ 1000000 := by have := Hmq.out; unfold wgt at this; omega
         have HWq := Lh (fun w => wr_r q.kind q.place q.opn q.text q.repl q.more hqs w)
         have HBq := Lh (fun w => begins_s (ba (wrB q)) w)
         rw [ba_data, show ((wrB q).head? == some 36) = dolB q from rfl] at HBq
         have HSg : Hid (sigT t (nextD l m) true = dolB q) := Lh (by unfold sigT isSgT; rw [hk3, HDn]; simp only [Bool.true_and]; rw [h1, h2]; rfl)
         clear hq HDn hqs
         have G3 := Lh (show Gr w2 (w2.alloc (.cells #[.string ⟨#[36]⟩, .string ⟨#[64]⟩] 9)) from (Gr.refl w2).alloc _)
         have T3 := Lh (T2.out.gr G3.out)
         obtain ⟨q0, q1, q2, q3, q4, q5⟩ := T3.out.cells
         go_wp2_with fail
         refine (HH.out w2).mono ?_
         rintro e3 w3 ⟨rfl, rfl⟩
         clear y0 y1 y2 y3 y4 y5
         generalize (w2.alloc (.cells #[.string ⟨#[36]⟩, .string ⟨#[64]⟩] 9)) = V3 at *
         have G4 := Lh (G3.out.trans (show Gr V3 (V3.alloc (.cells #[.string ⟨#[37]⟩, .string ⟨#[38]⟩] 9)) from (Gr.refl V3).alloc _))
         have T4 := Lh (T2.out.gr G4.out)
         obtain ⟨y0, y1, y2, y3, y4, y5⟩ := T4.out.cells
         go_wp2_with fail
         refine (HH2.out V3).mono ?_
         rintro e4 w4 ⟨rfl, rfl⟩
         clear q0 q1 q2 q3 q4 q5
         generalize (V3.alloc (.cells #[.string ⟨#[37]⟩, .string ⟨#[38]⟩] 9)) = V4 at *
         rw [← cell_gr (G2.out.trans G4.out) hb2] at z0 z1 z2 z3 z4 z5
         go_wp2_with fail
         refine (HWq.out _).mono ?_
         rintro e5 w5 ⟨rfl, g5⟩
         have G5 := Lh (G4.out.trans g5)
         have T5 := Lh (T4.out.gr g5)
         clear g5 y0 y1 y2 y3 y4 y5
         obtain ⟨y0, y1, y2, y3, y4, y5⟩ := T5.out.cells
         go_wp2_with fail
         refine (HBq.out _).mono ?_
         rintro e6 w6 ⟨rfl, rfl⟩
         go_wp2_with fail
         go_meet
         exact ⟨by rw [HSg.out], G5⟩
        ·have hli : decide ((m : Int) < (l.length : Int)) = false := by simp; omega
         have hli2 : ¬ (m : Int) < (l.length : Int) := by omega
         have hli3 : decide (m < l.length) = false := decide_eq_false hlast
         have HSg : Hid (sigT t (nextD l m) true = false) := Lh (by unfold nextD sigT isSgT; rw [List.getElem?_eq_none (by omega), hk3]; simp only [Bool.true_and]; rw [h1]; simp)
         have G3 := Lh (show Gr w2 (w2.alloc (.cells #[.string ⟨#[36]⟩, .string ⟨#[64]⟩] 9)) from (Gr.refl w2).alloc _)
         have T3 := Lh (T2.out.gr G3.out)
         obtain ⟨q0, q1, q2, q3, q4, q5⟩ := T3.out.cells
         go_wp2_with fail
         refine (HH.out w2).mono ?_
         rintro e3 w3 ⟨rfl, rfl⟩
         clear y0 y1 y2 y3 y4 y5
         generalize (w2.alloc (.cells #[.string ⟨#[36]⟩, .string ⟨#[64]⟩] 9)) = V3 at *
         have G4 := Lh (G3.out.trans (show Gr V3 (V3.alloc (.cells #[.string ⟨#[37]⟩, .string ⟨#[38]⟩] 9)) from (Gr.refl V3).alloc _))
         have T4 := Lh (T2.out.gr G4.out)
         obtain ⟨y0, y1, y2, y3, y4, y5⟩ := T4.out.cells
         go_wp2_with fail
         refine (HH2.out V3).mono ?_
         rintro e4 w4 ⟨rfl, rfl⟩
         clear q0 q1 q2 q3 q4 q5
         generalize (V3.alloc (.cells #[.string ⟨#[37]⟩, .string ⟨#[38]⟩] 9)) = V4 at *
         go_wp2_with fail
         go_meet
         exact ⟨by rw [HSg.out], G4⟩
     ·skip
      have HSg : Hid (sigT t (nextD l m) true = false) := Lh (by unfold sigT isSgT; rw [hk3]; rfl)
      go_wp2_with fail
      go_meet
      exact ⟨by rw [HSg.out], W20⟩
   case rest =>
   obtain ⟨rfl, Gx⟩ := hcut
   have G3 := Lh (G2.out.trans Gx.out)
   have T3 := Lh (T2.out.gr Gx.out)
   clear y0 y1 y2 y3 y4 y5
   obtain ⟨y0, y1, y2, y3, y4, y5⟩ := T3.out.cells
   generalize hSg : sigT t (nextD l m) term = sg at *
   go_wp2_with fail
   refine (HEx.out _).mono ?_
   rintro e9 w9 ⟨rfl, g9⟩
   have G9 := Lh (G3.out.trans g9)
   clear g9
   go_wp2_with fail
   go_roundw
   case rel => exact ⟨m, _, _, _, rfl, rfl, rfl, rfl, by have := Hmi1.out; have := HcI.out; omega, Lh (by rw [HJ.out, HR.out, HA.out, HS.out, HBl.out]; simp [ba_data, afterB, HU2.out]), G9⟩
   case measure => have := HcI.out; have := Hmi1.out; simp only [leftTo]; omega
  ·have hci : decide ((i : Int) < (l.length : Int)) = false := by simp; omega
   have hci2 : ¬ (i : Int) < (l.length : Int) := by omega
   have hci3 : decide (i < l.length) = false := decide_eq_false hc
   have E : Hid (u = ba J) := Lh (ba_is (by rw [HJ.out, List.drop_eq_nil_of_le (by omega), joinL, sepR]; simp))
   have HE2 := Lh (fun W g => HEnd.out W g)
   rw [← E.out] at HE2
   have HX := Lh (fun n => lexO_err (ref := false) (l := J) (n := n))
   generalize lexO false J = X at *
   clear hc HEnd
   cases X with
   | error n =>
    have hn : ((n : Int) != 0) = true := by have := HX.out n rfl; simp; omega
    go_wp2_with fail
    refine (HE2.out _ Gg.out).mono ?_
    rintro e3 w3 ⟨⟨p, rfl⟩, g3⟩
    have G3 := Lh (Gg.out.trans g3)
    clear g3
    go_wp2_with fail
    refine bodyPost_ret (v := .tuple #[.string ⟨#[]⟩, .int .i64 (n : Int)]) (by simp [results, Tryz.results12, go_sem]) rfl ?_
    exact ⟨by rw [HKV.out]; rfl, G3.out⟩
   | ok r =>
    go_wp2_with fail
    refine (HE2.out _ Gg.out).mono ?_
    rintro e3 w3 ⟨⟨tv, q, rfl, hT⟩, hl3, g3⟩
    have G3 := Lh (Gg.out.trans g3)
    have L3 := Lh hl3
    have HSm := Lh (Same_r w3 hT (HL.out.gr G3.out) (by rw [toksOf_len]; omega))
    clear g3 hT hl3
    cases hs : sameL (toksOf r.1) l with
    | true =>
     rw [hs] at HSm
     have HK2 : Hid (KV = .tuple #[.string u, .int .i64 0]) := Lh (by rw [HKV.out, E.out]; unfold joinV; simp only; rw [if_pos hs])
     clear hs HKV
     go_wp2_with fail
     refine (HSm.out).mono ?_
     rintro e4 w4 ⟨rfl, g4⟩
     have G4 := Lh (G3.out.trans g4)
     clear g4
     go_wp2_with fail
     refine bodyPost_ret (v := .tuple #[.string u, .int .i64 0]) (by simp [results, Tryz.results12, go_sem]) rfl ?_
     exact ⟨by rw [HK2.out], G4.out⟩
    | false =>
     rw [hs] at HSm
     have HK2 : Hid (KV = .tuple #[.string ⟨#[]⟩, .int .i64 1]) := Lh (by rw [HKV.out]; unfold joinV; simp only; rw [if_neg (by rw [hs]; decide)])
     clear hs HKV
     go_wp2_with fail
     refine (HSm.out).mono ?_
     rintro e4 w4 ⟨rfl, g4⟩
     have G4 := Lh (G3.out.trans g4)
     clear g4
     go_wp2_with fail
     refine bodyPost_ret (v := .tuple #[.string ⟨#[]⟩, .int .i64 1]) (by simp [results, Tryz.results12, go_sem]) rfl ?_
     exact ⟨by rw [HK2.out], G4.out⟩
set_option maxRecDepth 100000 in
set_option maxHeartbeats 4000000 in
theorem join_p {v : Value} {l : List Tok} (w : World) (hl : TksIs w v l) (hw : wgts l ≤ 1000000) (KV : Value) (hKV : KV = joinV (lexO false (joinL true l)) (joinL true l) l)
  (hend : ∀ W, Gr w W → Calls Tryz.prog 18 #[.string (ba (joinL true l))] W (LexQ W (lexO false (joinL true l)))) :
  Calls Tryz.prog 13 #[v] w fun e w' => e = .returned KV ∧ Gr w w' := by
 have HL := Lh hl
 have HJ := Lh (joined_p w hl hw)
 obtain ⟨a1, cap1, rfl, _⟩ := hl
 have HEnd := Lh hend
 have HKV := Lh hKV
 have HX := Lh (fun n => lexO_err (ref := false) (l := joinL true l) (n := n))
 generalize lexO false (joinL true l) = X at *
 generalize hu : ba (joinL true l) = u at *
 have E : Hid (ba (joinL true l) = u) := Lh hu
 clear hend hKV hu hw
 go_enter Tryz.func13, Tryz.ntmps13
 go_wp2_with fail
 refine (HJ.out).mono ?_
 rintro e1 w1 ⟨rfl, g1⟩
 have Gg := Lh g1
 clear g1 HJ
 cases X with
 | error n =>
  have hn : ((n : Int) != 0) = true := by have := HX.out n rfl; simp; omega
  go_wp2_with fail
  refine (HEnd.out _ Gg.out).mono ?_
  rintro e3 w3 ⟨⟨p, rfl⟩, g3⟩
  have G3 := Lh (Gg.out.trans g3)
  clear g3
  go_wp2_with fail
  refine bodyPost_ret (v := .tuple #[.string ⟨#[]⟩, .int .i64 (n : Int)]) (by simp [results, Tryz.results13, go_sem]) rfl ?_
  exact ⟨by rw [HKV.out]; rfl, G3.out⟩
 | ok r =>
  go_wp2_with fail
  refine (HEnd.out _ Gg.out).mono ?_
  rintro e3 w3 ⟨⟨tv, q, rfl, hT⟩, hl3, g3⟩
  have G3 := Lh (Gg.out.trans g3)
  have HSm := Lh (Same_p w3 hT (HL.out.gr G3.out) (by rw [toksOf_len]; omega))
  clear g3 hT hl3
  cases hs : sameL (toksOf r.1) l with
  | true =>
   rw [hs] at HSm
   have HK2 : Hid (KV = .tuple #[.string u, .int .i64 0]) := Lh (by rw [HKV.out, ← E.out]; unfold joinV; simp only; rw [if_pos hs])
   clear hs HKV
   go_wp2_with fail
   refine (HSm.out).mono ?_
   rintro e4 w4 ⟨rfl, g4⟩
   have G4 := Lh (G3.out.trans g4)
   clear g4
   go_wp2_with fail
   refine bodyPost_ret (v := .tuple #[.string u, .int .i64 0]) (by simp [results, Tryz.results13, go_sem]) rfl ?_
   exact ⟨by rw [HK2.out], G4.out⟩
  | false =>
   rw [hs] at HSm
   have HK2 : Hid (KV = .tuple #[.string ⟨#[]⟩, .int .i64 1]) := Lh (by rw [HKV.out]; unfold joinV; simp only; rw [if_neg (by rw [hs]; decide)])
   clear hs HKV
   go_wp2_with fail
   refine (HSm.out).mono ?_
   rintro e4 w4 ⟨rfl, g4⟩
   have G4 := Lh (G3.out.trans g4)
   clear g4
   go_wp2_with fail
   refine bodyPost_ret (v := .tuple #[.string ⟨#[]⟩, .int .i64 1]) (by simp [results, Tryz.results13, go_sem]) rfl ?_
   exact ⟨by rw [HK2.out], G4.out⟩
def kdB (l : List Tok) : Bool := l.all fun t => decide (0 ≤ t.kind) && decide (t.kind ≤ 9)
def txs (l : List Tok) : Nat := (l.map fun t => t.text.size + t.repl.size + t.more.size).sum
def kindsB (l : List Tok) : Bool := kdB l && decide (l.length + txs l ≤ 16000)
theorem txs_cons (t : Tok) (l : List Tok) : txs (t :: l) = t.text.size + t.repl.size + t.more.size + txs l := by unfold txs; simp
theorem kdB_cons (t : Tok) (l : List Tok) : kdB (t :: l) = ((decide (0 ≤ t.kind) && decide (t.kind ≤ 9)) && kdB l) := by unfold kdB; simp
theorem wgts_cons (t : Tok) (l : List Tok) : wgts (t :: l) = wgt t + 1 + wgts l := by unfold wgts; simp
theorem wgts_txs : ∀ l : List Tok, wgts l = 7 * l.length + 2 * txs l
 | [] => rfl
 | t :: l => by
  rw [wgts_cons, txs_cons, wgts_txs l, List.length_cons]
  unfold wgt
  omega
theorem txs_at {l : List Tok} {i : Nat} (h : i < l.length) : txs (l.drop i) = l[i].text.size + l[i].repl.size + l[i].more.size + txs (l.drop (i + 1)) := by
 rw [List.drop_eq_getElem_cons h, txs_cons]
theorem kdB_at {l : List Tok} {i : Nat} (h : i < l.length) : kdB (l.drop i) = ((decide (0 ≤ l[i].kind) && decide (l[i].kind ≤ 9)) && kdB (l.drop (i + 1))) := by
 rw [List.drop_eq_getElem_cons h, kdB_cons]
set_option maxRecDepth 100000 in
set_option maxHeartbeats 4000000 in
theorem kinds_l {v : Value} {l : List Tok} (w : World) (hl : TksIs w v l) (hw : l.length + txs l ≤ 1000000000000) : Calls Tryz.prog 11 #[v] w fun e w' => e = .returned (.bool (kindsB l)) ∧ Gr w w' := by
 obtain ⟨a1, cap1, rfl, hc1⟩ := hl
 have Hc1 := Lh hc1
 have Ht := Lh (fun i (h : i < l.length) => txs_at h)
 have Hk := Lh (fun i (h : i < l.length) => kdB_at h)
 have HW := Lh hw
 have hn : l.length ≤ 1000000000000 := by omega
 have Hn := Lh hn
 have HK0 : Hid (kdB l = kdB (l.drop 0)) := Lh (by simp)
 have HT0 : Hid (l.length + txs l = l.length + txs (l.drop 0)) := Lh (by rw [List.drop_zero])
 have HKB : Hid (kindsB l = (kdB l && decide (l.length + txs l ≤ 16000))) := Lh rfl
 clear hc1 hw hn
 go_enter Tryz.func11, Tryz.ntmps11
 go_wp2_with fail
 go_loopw [3, 4] (fun nv iv wr => ∃ i n : Nat, iv = .int .i64 (i : Int) ∧ nv = .int .i64 (n : Int) ∧ i ≤ l.length ∧ Hid (kdB l = kdB (l.drop i)) ∧ Hid (l.length + txs l = n + txs (l.drop i)) ∧ Hid (Gr w wr)) (fun _ iv _ => leftTo l.length iv)
 case atStart => exact ⟨0, l.length, rfl, rfl, Nat.zero_le _, HK0, HT0, Lh (Gr.refl w)⟩
 case round =>
  obtain ⟨i, n, rfl, rfl, hi, HK, HN, Gg⟩ := hrel
  clear HK0 HT0
  by_cases hc : i < l.length
  ·have hci : (i : Int) < (l.length : Int) := by omega
   obtain ⟨b1, o1, rfl, hb1, x0, x1, x2, x3, x4, x5⟩ := Hc1.out i hc
   rw [← cell_gr Gg.out hb1] at x0 x1 x2 x3 x4 x5
   have HA := Lh (Ht.out i hc)
   have HB := Lh (Hk.out i hc)
   have HcI := Lh hc
   obtain ⟨m, hm⟩ : ∃ m, m = i + 1 := ⟨_, rfl⟩
   have hm1 : (i : Int) + 1 = (m : Int) := by omega
   have hm2 : (m : Int) ≤ 9223372036854775807 := by have := Hn.out; omega
   have hm3 : -9223372036854775808 ≤ (m : Int) := by omega
   have hm4 : IntKind.i64.wrap (m : Int) = (m : Int) := by rw [IntKind.wrap_i64]; omega
   rw [← hm] at HA HB
   have Hmi1 := Lh hm
   generalize l[i] = t at *
   have hts : t.text.size + t.repl.size + t.more.size + n ≤ 1000000000000 := by have := HW.out; have h2 := HN.out; rw [HA.out] at h2; omega
   by_cases k0 : t.kind < 0
   ·have k1 : decide (t.kind < 0) = true := decide_eq_true k0
    have E : Hid (kindsB l = false) := Lh (by rw [HKB.out, HK.out, HB.out, decide_eq_false (show ¬ 0 ≤ t.kind by omega)]; rfl)
    clear hm hi hc
    go_wp2_with fail
    go_ret
    exact ⟨by rw [E.out]; rfl, Gg.out⟩
   ·have k1 : decide (t.kind < 0) = false := decide_eq_false k0
    by_cases k9 : t.kind > 9
    ·have k2 : decide (t.kind > 9) = true := decide_eq_true k9
     have k3 : decide (9 < t.kind) = true := decide_eq_true (by omega)
     have E : Hid (kindsB l = false) := Lh (by rw [HKB.out, HK.out, HB.out, decide_eq_false (show ¬ t.kind ≤ 9 by omega)]; simp)
     clear hm hi hc
     go_wp2_with fail
     go_ret
     exact ⟨by rw [E.out]; rfl, Gg.out⟩
    ·have k2 : decide (t.kind > 9) = false := decide_eq_false k9
     have k3 : decide (9 < t.kind) = false := decide_eq_false (by omega)
     have HK2 : Hid (kdB l = kdB (l.drop m)) := Lh (by rw [HK.out, HB.out, decide_eq_true (show 0 ≤ t.kind by omega), decide_eq_true (show t.kind ≤ 9 by omega)]; rfl)
     obtain ⟨p, hp⟩ : ∃ p, p = t.text.size + t.repl.size := ⟨_, rfl⟩
     have p1 : (t.text.size : Int) + (t.repl.size : Int) = (p : Int) := by omega
     have p2 : (p : Int) ≤ 9223372036854775807 := by omega
     have p3 : -9223372036854775808 ≤ (p : Int) := by omega
     have p4 : IntKind.i64.wrap (p : Int) = (p : Int) := by rw [IntKind.wrap_i64]; omega
     obtain ⟨q, hq⟩ : ∃ q, q = p + t.more.size := ⟨_, rfl⟩
     have q1 : (p : Int) + (t.more.size : Int) = (q : Int) := by omega
     have q2 : (q : Int) ≤ 9223372036854775807 := by omega
     have q3 : -9223372036854775808 ≤ (q : Int) := by omega
     have q4 : IntKind.i64.wrap (q : Int) = (q : Int) := by rw [IntKind.wrap_i64]; omega
     obtain ⟨r, hr⟩ : ∃ r, r = n + q := ⟨_, rfl⟩
     have r1 : (n : Int) + (q : Int) = (r : Int) := by omega
     have r2 : (r : Int) ≤ 9223372036854775807 := by omega
     have r3 : -9223372036854775808 ≤ (r : Int) := by omega
     have r4 : IntKind.i64.wrap (r : Int) = (r : Int) := by rw [IntKind.wrap_i64]; omega
     have HN2 : Hid (l.length + txs l = r + txs (l.drop m)) := Lh (by rw [HN.out, HA.out]; omega)
     clear hm hi hc HK HB HN HA hp hq hr hts
     go_wp2_with fail
     go_quiet (fail)
     go_wp2_with fail
     go_roundw
     case rel => exact ⟨m, r, rfl, rfl, by have := Hmi1.out; have := HcI.out; omega, HK2, HN2, Lh (Gg.out.drewN _)⟩
     case measure => have := HcI.out; have := Hmi1.out; simp only [leftTo]; omega
  ·have hci : decide ((i : Int) < (l.length : Int)) = false := by simp; omega
   have hci2 : ¬ (i : Int) < (l.length : Int) := by omega
   have hci3 : decide (i < l.length) = false := decide_eq_false hc
   have E : Hid (kindsB l = decide ((n : Int) ≤ 16000)) := Lh (by
    have h1 : kdB l = true := by rw [HK.out, List.drop_eq_nil_of_le (by omega)]; rfl
    have h2 : l.length + txs l = n := by rw [HN.out, List.drop_eq_nil_of_le (by omega)]; rfl
    rw [HKB.out, h1, h2]
    simp
    omega)
   clear hi hc
   go_wp2_with fail
   go_ret
   exact ⟨by rw [E.out]; rfl, Gg.out⟩
theorem joinV_form (X : Except Nat (List RTok × List Bool)) (J : List UInt8) (l : List Tok) : ∃ (u : ByteArray) (k : Int), joinV X J l = .tuple #[.string u, .int .i64 k] := by
 unfold joinV
 cases X with
 | error n => exact ⟨_, _, rfl⟩
 | ok r =>
  simp only
  by_cases h : sameL (toksOf r.1) l = true
  ·rw [if_pos h]; exact ⟨_, _, rfl⟩
  ·rw [if_neg h]; exact ⟨_, _, rfl⟩
theorem kd_of {l : List Tok} (h : kdB l = true) : ∀ i (h : i < l.length), 0 ≤ l[i].kind ∧ l[i].kind ≤ 9 := fun i hi => by
 unfold kdB at h
 have := List.all_eq_true.1 h l[i] (List.getElem_mem hi)
 simpa using this
set_option maxRecDepth 100000 in
set_option maxHeartbeats 4000000 in
theorem law_joins {v : Value} {l : List Tok} (w : World) (hl : TksIs w v l) (hw : l.length + txs l ≤ 1000000000000) (hFA : ∀ W, Gr w W → FieldsAt W) :
  Calls Tryz.prog 4 #[v] w fun e w' => e = .returned (.bool true) ∧ Gr w w' := by
 have HK := Lh (fun w => known_l w)
 have HD := Lh (kinds_l w hl hw)
 cases hk : kindsB l with
 | false =>
  rw [hk] at HD
  obtain ⟨a1, cap1, rfl, _⟩ := hl
  clear hw hFA hk
  go_enter Tryz.func4, Tryz.ntmps4
  go_wp2_with fail
  refine (HD.out).mono ?_
  rintro e1 w1 ⟨rfl, g1⟩
  have G1 := Lh g1
  clear g1
  go_wp2_with fail
  refine (HK.out _).mono ?_
  rintro e2 w2 ⟨rfl, g2⟩
  have G2 := Lh (G1.out.trans g2)
  clear g2
  go_wp2
  go_ret
  exact ⟨rfl, G2.out⟩
 | true =>
  rw [hk] at HD
  have hk2 : kdB l = true ∧ l.length + txs l ≤ 16000 := by unfold kindsB at hk; simpa using hk
  have hwg : wgts l ≤ 1000000 := by rw [wgts_txs]; omega
  have hkd := kd_of hk2.1
  obtain ⟨u, k, hv⟩ := joinV_form (lexO false (joinL true l)) (joinL true l) l
  have HR := Lh (fun W (g : Gr w W) => joins_r W (hl.gr g) hwg hkd (.tuple #[.string u, .int .i64 k]) (fun W2 _ => by have := lexq_r (ba (joinL true l)) W2; rwa [ba_data] at this) hv.symm)
  have HP := Lh (fun W (g : Gr w W) => join_p W (hl.gr g) hwg (.tuple #[.string u, .int .i64 k]) hv.symm (fun W2 g2 => by have := lexq_p (ba (joinL true l)) W2 (fun W3 g3 => hFA W3 (g.trans (g2.trans g3))); rwa [ba_data] at this))
  have ek : (k == k) = true := by simp
  have eu2 : (u.toList == u.toList) = true := by simp
  obtain ⟨a1, cap1, rfl, _⟩ := hl
  clear hw hFA hk hk2 hwg hkd hv
  go_enter Tryz.func4, Tryz.ntmps4
  go_wp2_with fail
  refine (HD.out).mono ?_
  rintro e1 w1 ⟨rfl, g1⟩
  have G1 := Lh g1
  clear g1
  go_wp2_with fail
  refine (HR.out _ G1.out).mono ?_
  rintro e2 w2 ⟨rfl, g2⟩
  have G2 := Lh (G1.out.trans g2)
  clear g2
  go_wp2_with fail
  refine (HP.out _ G2.out).mono ?_
  rintro e3 w3 ⟨rfl, g3⟩
  have G3 := Lh (G2.out.trans g3)
  clear g3
  go_wp2_with fail
  refine (HK.out _).mono ?_
  rintro e4 w4 ⟨rfl, g4⟩
  have G4 := Lh (G3.out.trans g4)
  clear g4
  go_wp2
  go_ret
  exact ⟨rfl, G4.out⟩
end Go.Proofs.YthmopindibdhnaaGreatDoor.G
namespace Go.Proofs.YthmopindibdhnaaGreatDoor.G
open Go.ChangeShapes Go.WideShapes Go.ChangeAt Go.RowKit Go.Joins Go.Deep
theorem cellsTok : Tryz.prog.cellsOf 42 = 6 := by kernel_rfl
theorem cellsInt6 : Tryz.prog.cellsOf 3 = 1 := by kernel_rfl
theorem cellsStr6 : Tryz.prog.cellsOf 9 = 1 := by kernel_rfl
instance : Inhabited Tok := ⟨tok0⟩
theorem bulk_all {H : Type} (f : Nat → Tok) (D : Nat → DataW H) : ∀ L : List Nat, (∀ i ∈ L, (f i).text.size + (f i).repl.size + (f i).more.size + 1 ≤ Rows.uptoBulk (D i)) → L.length + txs (L.map f) ≤ Rows.uptoBulkAll (L.map D)
 | [], _ => Nat.zero_le _
 | i :: L, h => by
  have h1 := bulk_all f D L (fun j hj => h j (List.mem_cons_of_mem _ hj))
  have h2 := h i (List.mem_cons_self ..)
  rw [List.map_cons, List.map_cons, txs_cons, List.length_cons, Rows.uptoBulkAll]
  omega
theorem bulk_tok {H : Type} (a b c : Lit) (x y z : List UInt8) : x.length + y.length + z.length + 1 ≤ Rows.uptoBulk (.agg [.lit a, .lit b, .lit (.string x), .lit (.string y), .lit (.string z), .lit c] : DataW H) := by
 simp only [Rows.uptoBulk, Rows.uptoBulkAll]
 omega
set_option maxRecDepth 100000 in
theorem open_toksB {H : Type} {enc : TypeId × Value → H} {w : World} {r : Reach} {b0 base : Nat} {sp : Nat → Bool} {held : Bool} {v : Value} {d : DataW H} {p : List MemPlace}
  (hv : Value.okWide Tryz.prog w r b0 28 v) (h : DataW.Trod enc Tryz.prog w base sp held 28 v d p) : ∃ l, TksIs w v l ∧ l.length + txs l ≤ Rows.uptoBulk d := by
 obtain ⟨a0, len, cap, rfl⟩ := okWide_slice Tryz.underlying28 hv
 obtain ⟨fuel, hf⟩ := h
 rcases open_slice Tryz.underlying28 hf with ⟨hcs, _⟩ | ⟨a, len', cap', m, n, D, Pl, hcs, _, hl, hm, hmm, hxe, hx⟩
 ·simp [Value.cells] at hcs
  obtain ⟨rfl, rfl, rfl⟩ := hcs
  exact ⟨[], ⟨none, 0, rfl, fun k hk => absurd hk (Nat.not_lt_zero _)⟩, Nat.zero_le _⟩
 ·simp [Value.cells] at hcs
  obtain ⟨rfl, rfl, rfl⟩ := hcs
  have hlm : len ≤ m := by rw [hmm]; split <;> omega
  have hspot : 0 < len → a.spot = none := fun h0 => by
   obtain ⟨cs', h1, _⟩ := hx 0 (by omega)
   rw [cellsTok] at h1
   obtain ⟨_, hlen, hcell⟩ := World.cells?_some h1
   have e0 := hcell 0 (by omega)
   rw [List.getElem?_eq_getElem (by omega)] at e0
   have := World.cell?_spot e0
   simpa [Addr.add] using this
  have each : ∀ i, i < len → ∃ t : Tok, ∃ b o, a = ⟨b, o, none⟩ ∧ b < w.heap.size ∧
    w.cell? ⟨b, o + i * 6, none⟩ = some (.int .i64 t.kind) ∧ w.cell? ⟨b, o + i * 6 + 1, none⟩ = some (.int .i64 t.place) ∧ w.cell? ⟨b, o + i * 6 + 2, none⟩ = some (.string t.text) ∧
    w.cell? ⟨b, o + i * 6 + 3, none⟩ = some (.string t.repl) ∧ w.cell? ⟨b, o + i * 6 + 4, none⟩ = some (.string t.more) ∧ w.cell? ⟨b, o + i * 6 + 5, none⟩ = some (.int .i64 t.opn) ∧ t.text.size + t.repl.size + t.more.size + 1 ≤ Rows.uptoBulk (D i) := by
   intro i hi
   obtain ⟨cs', h1, h2⟩ := hx i (by omega)
   rw [cellsTok] at h1
   obtain ⟨_, hlen, hcell⟩ := World.cells?_some h1
   obtain ⟨xs, k, hk, hxy, _, hxl, hf⟩ := DataW.trod_struct Tryz.underlying42 h2
   match xs, hxl, cs', hlen with
   | [y0, y1, y2, y3, y4, y5], _, [v0, v1, v2, v3, v4, v5], _ =>
    have g0 := hf 0 _ rfl
    have g1 := hf 1 _ rfl
    have g2 := hf 2 _ rfl
    have g3 := hf 3 _ rfl
    have g4 := hf 4 _ rfl
    have g5 := hf 5 _ rfl
    simp [cellsInt6, cellsStr6] at g0 g1 g2 g3 g4 g5
    have e0 := hcell 0 (by omega)
    have e1 := hcell 1 (by omega)
    have e2 := hcell 2 (by omega)
    have e3 := hcell 3 (by omega)
    have e4 := hcell 4 (by omega)
    have e5 := hcell 5 (by omega)
    rw [add_add] at e0 e1 e2 e3 e4 e5
    obtain ⟨k0, q0, d0, _⟩ := DataW.trod_int Tryz.underlying3 g0
    obtain ⟨k1, q1, d1, _⟩ := DataW.trod_int Tryz.underlying3 g1
    obtain ⟨s2, q2, d2, _⟩ := DataW.trod_string Tryz.underlying9 g2
    obtain ⟨s3, q3, d3, _⟩ := DataW.trod_string Tryz.underlying9 g3
    obtain ⟨s4, q4, d4, _⟩ := DataW.trod_string Tryz.underlying9 g4
    obtain ⟨k5, q5, d5, _⟩ := DataW.trod_int Tryz.underlying3 g5
    simp only [List.cons.injEq, and_true] at q0 q1 q2 q3 q4 q5
    subst q0 q1 q2 q3 q4 q5
    simp only [List.getElem?_cons_zero, List.getElem?_cons_succ] at e0 e1 e2 e3 e4 e5
    have hs0 := hspot (by omega)
    obtain ⟨b, off, spot⟩ := a
    subst hs0
    rw [WideShapes.add_plain] at e0 e1 e2 e3 e4 e5
    simp only [Nat.add_zero, ← Nat.add_assoc] at e0 e1 e2 e3 e4 e5
    subst d0 d1 d2 d3 d4 d5
    have hD := (Prod.mk.inj hxy).1
    have hB : s2.size + s3.size + s4.size + 1 ≤ Rows.uptoBulk (D i) := by
     rw [hD, ← sizeL s2, ← sizeL s3, ← sizeL s4]
     exact bulk_tok _ _ _ _ _ _
    exact ⟨⟨k0, k1, s2, s3, s4, k5⟩, b, off, rfl, World.block_lt_of_cell? w _ e0, e0, e1, e2, e3, e4, e5, hB⟩
  obtain ⟨f, hF⟩ := choose_lt each
  refine ⟨(List.range len).map f, ⟨some a, cap, by simp, fun k hk => ?_⟩, ?_⟩
  ·have hk' : k < len := by simpa using hk
   obtain ⟨b, o, rfl, hb, c0, c1, c2, c3, c4, c5, _⟩ := hF k hk'
   refine ⟨b, o, rfl, hb, ?_⟩
   simp only [List.getElem_map, List.getElem_range]
   exact ⟨c0, c1, c2, c3, c4, c5⟩
  ·have h1 := bulk_all f D (List.range len) (fun i hi => by
    obtain ⟨_, _, _, _, _, _, _, _, _, _, h⟩ := hF i (List.mem_range.1 hi)
    exact h)
   have hd := (Prod.mk.inj hxe).1
   rw [hd, Rows.uptoBulk]
   rw [List.length_map]
   omega
end Go.Proofs.YthmopindibdhnaaGreatDoor.G
namespace Go.Proofs.YthmopindibdhnaaGreatDoor.G
open Go.RowKit Go.Shelf Go.Maps
theorem wextra : WhiteExtra Tryz.prog Tryz.lays157_ren where
 n6 := by kernel_rfl
 y6 := by kernel_rfl
 c3 := by kernel_rfl
 c49 := by kernel_rfl
 c193 := by kernel_rfl
 c194 := by kernel_rfl
 c196 := by kernel_rfl
 c198 := by kernel_rfl
theorem fields_of {W : World} (h : laidMet Tryz.prog [("unicode.White_Space", Rows.laid_unicode_White_Space), ("strings.asciiSpace", Rows.laid_strings_asciiSpace)] W) : ∀ W', Gr W W' → FieldsAt W' := by
 have r1 := Lib.laidMet.reads h (List.Mem.head _)
 have e1 : (Rows.laid_unicode_White_Space : DataW Unit) = Lib.whiteData := by kernel_rfl
 rw [e1] at r1
 have e2 : (Rows.laid_strings_asciiSpace : DataW Unit) = Lib.tabData .u8 Lib.asciiSpaceTab := by kernel_rfl
 have h2 := laidMet.tail h
 rw [e2] at h2
 exact fields_at (Lib.tabIs_of_head (g := 1) (t := 132) (e := 5) (n := 256) (by kernel_rfl) (by kernel_rfl) Tryz.underlying132 Tryz.underlying5 (by kernel_rfl) (by kernel_rfl) h2) (whiteTab_of_reads { Tryz.lays157 with } wextra r1)
end Go.Proofs.YthmopindibdhnaaGreatDoor.G
