import Derived.Test.YthmopindibdhnaaGreatDoorQ00
import Derived.Test.YthmopindibdhnaaGreatDoorQ33
import Derived.Test.YthmopindibdhnaaGreatDoorQ36
namespace Go.Proofs.YthmopindibdhnaaGreatDoor.G
open Go.RowKit Go.Shelf Go.Maps
def subS (u : Tok) : Bool := isSgT u [123] && u.opn == 2
def sigT (t : Tok) (d term : Bool) : Bool := term && (isSgT t [36] || isSgT t [64] || ((isSgT t [37] || isSgT t [38]) && d))
def dolB (u : Tok) : Bool := (wrB u).head? == some 36
def tightB (t u : Tok) (term : Bool) : Bool := subS u || sigT t (dolB u) term
def afterB (t : Tok) (term : Bool) : Bool := behindB t.kind t.text.data.toList t.opn term
def sepB (t : Tok) (rest : List Tok) (term : Bool) : List UInt8 := match rest with
 | [] => []
 | u :: _ => if tightB t u term = true then [] else [32]
def joinL : Bool → List Tok → List UInt8
 | _, [] => []
 | term, t :: rest => wrB t ++ (sepB t rest term ++ joinL (afterB t term) rest)
def wgts (l : List Tok) : Nat := (l.map fun t => wgt t + 1).sum
theorem joinL_len : ∀ (term : Bool) (l : List Tok), (joinL term l).length ≤ wgts l
 | _, [] => Nat.le_refl _
 | term, t :: rest => by
  have h1 := wrB_len t
  have h2 := joinL_len (afterB t term) rest
  have h3 : (sepB t rest term).length ≤ 1 := by
   unfold sepB
   split
   ·simp
   ·split <;> simp
  unfold joinL
  unfold wgts at h2 ⊢
  simp only [List.length_append, List.map_cons, List.sum_cons]
  omega
def TokAt (W : World) (b : Nat) (t : Tok) : Prop := W.heap[b]? = some (.cells #[.int .i64 t.kind, .int .i64 t.place, .string t.text, .string t.repl, .string t.more, .int .i64 t.opn] 42 (0, 0))
theorem TokAt.gr {W W' : World} {b : Nat} {t : Tok} (h : TokAt W b t) (g : Gr W W') : TokAt W' b t := (g.block _ (Ag h).1).trans h
theorem TokAt.cells {W : World} {b : Nat} {t : Tok} (h : TokAt W b t) : W.cell? ⟨b, 0, none⟩ = some (.int .i64 t.kind) ∧ W.cell? ⟨b, 1, none⟩ = some (.int .i64 t.place) ∧ W.cell? ⟨b, 2, none⟩ = some (.string t.text) ∧
  W.cell? ⟨b, 3, none⟩ = some (.string t.repl) ∧ W.cell? ⟨b, 4, none⟩ = some (.string t.more) ∧ W.cell? ⟨b, 5, none⟩ = some (.int .i64 t.opn) := by
 unfold TokAt at h
 simp [World.cell?, h]
theorem dol_pre (u : Tok) : Lib.hasPrefix (ba (wrB u)).data.toList [36] = dolB u := by
 rw [ba_data]
 unfold dolB
 cases wrB u with
 | nil => rfl
 | cons c t =>
  show ((36 : UInt8) == c && true) = ((some c : Option UInt8) == some 36)
  by_cases h : c = 36
  ·subst h; rfl
  ·have h1 : ((36 : UInt8) == c) = false := by simpa using fun e : 36 = c => h e.symm
   have h2 : ((some c : Option UInt8) == some 36) = false := by simpa using h
   rw [h1, h2]; rfl
set_option maxRecDepth 100000 in
set_option maxHeartbeats 2000000 in
theorem tight_p (t u : Tok) (hu : u.text.size + u.repl.size + u.more.size ≤ 1000000) (term : Bool) (w : World) :
  Calls Tryz.prog 42 #[.agg #[.int .i64 t.kind, .int .i64 t.place, .string t.text, .string t.repl, .string t.more, .int .i64 t.opn], .agg #[.int .i64 u.kind, .int .i64 u.place, .string u.text, .string u.repl, .string u.more, .int .i64 u.opn], .bool term] w fun e w' => e = .returned (.bool (tightB t u term)) ∧ Gr w w' := by
 have G0 : Hid (Gr w ((w.alloc (.cells #[.int .i64 t.kind, .int .i64 t.place, .string t.text, .string t.repl, .string t.more, .int .i64 t.opn] 42)).alloc (.cells #[.int .i64 u.kind, .int .i64 u.place, .string u.text, .string u.repl, .string u.more, .int .i64 u.opn] 42))) := Lh (((Gr.refl w).alloc _).alloc _)
 have T0 : Hid (TokAt ((w.alloc (.cells #[.int .i64 t.kind, .int .i64 t.place, .string t.text, .string t.repl, .string t.more, .int .i64 t.opn] 42)).alloc (.cells #[.int .i64 u.kind, .int .i64 u.place, .string u.text, .string u.repl, .string u.more, .int .i64 u.opn] 42)) w.heap.size t) := Lh (by unfold TokAt; rw [(((Gr.refl (w.alloc (.cells #[.int .i64 t.kind, .int .i64 t.place, .string t.text, .string t.repl, .string t.more, .int .i64 t.opn] 42))).alloc (.cells #[.int .i64 u.kind, .int .i64 u.place, .string u.text, .string u.repl, .string u.more, .int .i64 u.opn] 42))).block _ (by simp)]; exact heap_alloc_new w _)
 have U0 : Hid (TokAt ((w.alloc (.cells #[.int .i64 t.kind, .int .i64 t.place, .string t.text, .string t.repl, .string t.more, .int .i64 t.opn] 42)).alloc (.cells #[.int .i64 u.kind, .int .i64 u.place, .string u.text, .string u.repl, .string u.more, .int .i64 u.opn] 42)) (w.heap.size + 1) u) := Lh (by unfold TokAt; have := heap_alloc_new (w.alloc (.cells #[.int .i64 t.kind, .int .i64 t.place, .string t.text, .string t.repl, .string t.more, .int .i64 t.opn] 42)) (.cells #[.int .i64 u.kind, .int .i64 u.place, .string u.text, .string u.repl, .string u.more, .int .i64 u.opn] 42); simpa using this)
 obtain ⟨x0, x1, x2, x3, x4, x5⟩ := T0.out.cells
 obtain ⟨y0, y1, y2, y3, y4, y5⟩ := U0.out.cells
 have HA := Lh (fun w => isSignOf_p u ⟨#[123]⟩ w)
 have H36 := Lh (fun w => isSignOf_p t ⟨#[36]⟩ w)
 have H64 := Lh (fun w => isSignOf_p t ⟨#[64]⟩ w)
 have H37 := Lh (fun w => isSignOf_p t ⟨#[37]⟩ w)
 have H38 := Lh (fun w => isSignOf_p t ⟨#[38]⟩ w)
 rw [show (⟨#[123]⟩ : ByteArray).data.toList = [123] from rfl] at HA
 rw [show (⟨#[36]⟩ : ByteArray).data.toList = [36] from rfl] at H36
 rw [show (⟨#[64]⟩ : ByteArray).data.toList = [64] from rfl] at H64
 rw [show (⟨#[37]⟩ : ByteArray).data.toList = [37] from rfl] at H37
 rw [show (⟨#[38]⟩ : ByteArray).data.toList = [38] from rfl] at H38
 have HW := Lh (fun w => wr_p u.kind u.place u.opn u.text u.repl u.more hu w)
 have HPx := Lh (fun w => prefix_any (ba (wrB u)) ⟨#[36]⟩ w)
 rw [show (⟨#[36]⟩ : ByteArray).data.toList = [36] from rfl, dol_pre] at HPx
 unfold tightB subS sigT
 generalize isSgT u [123] = a at *
 generalize isSgT t [36] = b36 at *
 generalize isSgT t [64] = b64 at *
 generalize isSgT t [37] = b37 at *
 generalize isSgT t [38] = b38 at *
 generalize dolB u = d at *
 by_cases ho : u.opn = 2
 ·have h2o : (u.opn == 2) = true := by simpa using ho
  rw [h2o]
  clear ho
  cases a with
  | true =>
   rw [show ((true && true) || (term && (b36 || b64 || ((b37 || b38) && d)))) = true from rfl]
   go_enter Tryz.func42, Tryz.ntmps42
   go_wp2_with fail
   refine (HA.out _).mono ?_
   rintro e1 w1 ⟨rfl, g1⟩
   have G1 := Lh (G0.out.trans g1)
   have T1 := Lh (T0.out.gr g1)
   have U1 := Lh (U0.out.gr g1)
   clear g1 x0 x1 x2 x3 x4 x5 y0 y1 y2 y3 y4 y5
   obtain ⟨x0, x1, x2, x3, x4, x5⟩ := T1.out.cells
   obtain ⟨y0, y1, y2, y3, y4, y5⟩ := U1.out.cells
   go_wp2_with fail
   go_ret
   exact ⟨rfl, G1.out⟩
  | false =>
   cases term with
   | false =>
    rw [show ((false && true) || (false && (b36 || b64 || ((b37 || b38) && d)))) = false from rfl]
    go_enter Tryz.func42, Tryz.ntmps42
    go_wp2_with fail
    refine (HA.out _).mono ?_
    rintro e2 w2 ⟨rfl, g2⟩
    have G2 := Lh (G0.out.trans g2)
    have T2 := Lh (T0.out.gr g2)
    have U2 := Lh (U0.out.gr g2)
    clear g2 x0 x1 x2 x3 x4 x5 y0 y1 y2 y3 y4 y5
    obtain ⟨x0, x1, x2, x3, x4, x5⟩ := T2.out.cells
    obtain ⟨y0, y1, y2, y3, y4, y5⟩ := U2.out.cells
    go_wp2_with fail
    go_ret
    exact ⟨rfl, G2.out⟩
   | true =>
    cases b36 with
    | true =>
     rw [show ((false && true) || (true && (true || b64 || ((b37 || b38) && d)))) = true from rfl]
     go_enter Tryz.func42, Tryz.ntmps42
     go_wp2_with fail
     refine (HA.out _).mono ?_
     rintro e3 w3 ⟨rfl, g3⟩
     have G3 := Lh (G0.out.trans g3)
     have T3 := Lh (T0.out.gr g3)
     have U3 := Lh (U0.out.gr g3)
     clear g3 x0 x1 x2 x3 x4 x5 y0 y1 y2 y3 y4 y5
     obtain ⟨x0, x1, x2, x3, x4, x5⟩ := T3.out.cells
     obtain ⟨y0, y1, y2, y3, y4, y5⟩ := U3.out.cells
     go_wp2_with fail
     refine (H36.out _).mono ?_
     rintro e4 w4 ⟨rfl, g4⟩
     have G4 := Lh (G3.out.trans g4)
     have T4 := Lh (T3.out.gr g4)
     have U4 := Lh (U3.out.gr g4)
     clear g4 x0 x1 x2 x3 x4 x5 y0 y1 y2 y3 y4 y5
     obtain ⟨x0, x1, x2, x3, x4, x5⟩ := T4.out.cells
     obtain ⟨y0, y1, y2, y3, y4, y5⟩ := U4.out.cells
     go_wp2_with fail
     go_ret
     exact ⟨rfl, G4.out⟩
    | false =>
     cases b64 with
     | true =>
      rw [show ((false && true) || (true && (false || true || ((b37 || b38) && d)))) = true from rfl]
      go_enter Tryz.func42, Tryz.ntmps42
      go_wp2_with fail
      refine (HA.out _).mono ?_
      rintro e5 w5 ⟨rfl, g5⟩
      have G5 := Lh (G0.out.trans g5)
      have T5 := Lh (T0.out.gr g5)
      have U5 := Lh (U0.out.gr g5)
      clear g5 x0 x1 x2 x3 x4 x5 y0 y1 y2 y3 y4 y5
      obtain ⟨x0, x1, x2, x3, x4, x5⟩ := T5.out.cells
      obtain ⟨y0, y1, y2, y3, y4, y5⟩ := U5.out.cells
      go_wp2_with fail
      refine (H36.out _).mono ?_
      rintro e6 w6 ⟨rfl, g6⟩
      have G6 := Lh (G5.out.trans g6)
      have T6 := Lh (T5.out.gr g6)
      have U6 := Lh (U5.out.gr g6)
      clear g6 x0 x1 x2 x3 x4 x5 y0 y1 y2 y3 y4 y5
      obtain ⟨x0, x1, x2, x3, x4, x5⟩ := T6.out.cells
      obtain ⟨y0, y1, y2, y3, y4, y5⟩ := U6.out.cells
      go_wp2_with fail
      refine (H64.out _).mono ?_
      rintro e7 w7 ⟨rfl, g7⟩
      have G7 := Lh (G6.out.trans g7)
      have T7 := Lh (T6.out.gr g7)
      have U7 := Lh (U6.out.gr g7)
      clear g7 x0 x1 x2 x3 x4 x5 y0 y1 y2 y3 y4 y5
      obtain ⟨x0, x1, x2, x3, x4, x5⟩ := T7.out.cells
      obtain ⟨y0, y1, y2, y3, y4, y5⟩ := U7.out.cells
      go_wp2_with fail
      go_ret
      exact ⟨rfl, G7.out⟩
     | false =>
      cases b37 with
      | true =>
       rw [show ((false && true) || (true && (false || false || ((true || b38) && d)))) = d from by cases d <;> rfl]
       go_enter Tryz.func42, Tryz.ntmps42
       go_wp2_with fail
       refine (HA.out _).mono ?_
       rintro e8 w8 ⟨rfl, g8⟩
       have G8 := Lh (G0.out.trans g8)
       have T8 := Lh (T0.out.gr g8)
       have U8 := Lh (U0.out.gr g8)
       clear g8 x0 x1 x2 x3 x4 x5 y0 y1 y2 y3 y4 y5
       obtain ⟨x0, x1, x2, x3, x4, x5⟩ := T8.out.cells
       obtain ⟨y0, y1, y2, y3, y4, y5⟩ := U8.out.cells
       go_wp2_with fail
       refine (H36.out _).mono ?_
       rintro e9 w9 ⟨rfl, g9⟩
       have G9 := Lh (G8.out.trans g9)
       have T9 := Lh (T8.out.gr g9)
       have U9 := Lh (U8.out.gr g9)
       clear g9 x0 x1 x2 x3 x4 x5 y0 y1 y2 y3 y4 y5
       obtain ⟨x0, x1, x2, x3, x4, x5⟩ := T9.out.cells
       obtain ⟨y0, y1, y2, y3, y4, y5⟩ := U9.out.cells
       go_wp2_with fail
       refine (H64.out _).mono ?_
       rintro e10 w10 ⟨rfl, g10⟩
       have G10 := Lh (G9.out.trans g10)
       have T10 := Lh (T9.out.gr g10)
       have U10 := Lh (U9.out.gr g10)
       clear g10 x0 x1 x2 x3 x4 x5 y0 y1 y2 y3 y4 y5
       obtain ⟨x0, x1, x2, x3, x4, x5⟩ := T10.out.cells
       obtain ⟨y0, y1, y2, y3, y4, y5⟩ := U10.out.cells
       go_wp2_with fail
       refine (H37.out _).mono ?_
       rintro e11 w11 ⟨rfl, g11⟩
       have G11 := Lh (G10.out.trans g11)
       have T11 := Lh (T10.out.gr g11)
       have U11 := Lh (U10.out.gr g11)
       clear g11 x0 x1 x2 x3 x4 x5 y0 y1 y2 y3 y4 y5
       obtain ⟨x0, x1, x2, x3, x4, x5⟩ := T11.out.cells
       obtain ⟨y0, y1, y2, y3, y4, y5⟩ := U11.out.cells
       go_wp2_with fail
       refine (HW.out _).mono ?_
       rintro e900 w900 ⟨rfl, g900⟩
       have G900 := Lh (G11.out.trans g900)
       clear g900 x0 x1 x2 x3 x4 x5 y0 y1 y2 y3 y4 y5
       go_wp2_with fail
       refine (HPx.out _).mono ?_
       rintro e901 w901 ⟨rfl, rfl⟩
       go_wp2_with fail
       go_ret
       exact ⟨rfl, G900.out⟩
      | false =>
       cases b38 with
       | true =>
        rw [show ((false && true) || (true && (false || false || ((false || true) && d)))) = d from by cases d <;> rfl]
        go_enter Tryz.func42, Tryz.ntmps42
        go_wp2_with fail
        refine (HA.out _).mono ?_
        rintro e12 w12 ⟨rfl, g12⟩
        have G12 := Lh (G0.out.trans g12)
        have T12 := Lh (T0.out.gr g12)
        have U12 := Lh (U0.out.gr g12)
        clear g12 x0 x1 x2 x3 x4 x5 y0 y1 y2 y3 y4 y5
        obtain ⟨x0, x1, x2, x3, x4, x5⟩ := T12.out.cells
        obtain ⟨y0, y1, y2, y3, y4, y5⟩ := U12.out.cells
        go_wp2_with fail
        refine (H36.out _).mono ?_
        rintro e13 w13 ⟨rfl, g13⟩
        have G13 := Lh (G12.out.trans g13)
        have T13 := Lh (T12.out.gr g13)
        have U13 := Lh (U12.out.gr g13)
        clear g13 x0 x1 x2 x3 x4 x5 y0 y1 y2 y3 y4 y5
        obtain ⟨x0, x1, x2, x3, x4, x5⟩ := T13.out.cells
        obtain ⟨y0, y1, y2, y3, y4, y5⟩ := U13.out.cells
        go_wp2_with fail
        refine (H64.out _).mono ?_
        rintro e14 w14 ⟨rfl, g14⟩
        have G14 := Lh (G13.out.trans g14)
        have T14 := Lh (T13.out.gr g14)
        have U14 := Lh (U13.out.gr g14)
        clear g14 x0 x1 x2 x3 x4 x5 y0 y1 y2 y3 y4 y5
        obtain ⟨x0, x1, x2, x3, x4, x5⟩ := T14.out.cells
        obtain ⟨y0, y1, y2, y3, y4, y5⟩ := U14.out.cells
        go_wp2_with fail
        refine (H37.out _).mono ?_
        rintro e15 w15 ⟨rfl, g15⟩
        have G15 := Lh (G14.out.trans g15)
        have T15 := Lh (T14.out.gr g15)
        have U15 := Lh (U14.out.gr g15)
        clear g15 x0 x1 x2 x3 x4 x5 y0 y1 y2 y3 y4 y5
        obtain ⟨x0, x1, x2, x3, x4, x5⟩ := T15.out.cells
        obtain ⟨y0, y1, y2, y3, y4, y5⟩ := U15.out.cells
        go_wp2_with fail
        refine (H38.out _).mono ?_
        rintro e16 w16 ⟨rfl, g16⟩
        have G16 := Lh (G15.out.trans g16)
        have T16 := Lh (T15.out.gr g16)
        have U16 := Lh (U15.out.gr g16)
        clear g16 x0 x1 x2 x3 x4 x5 y0 y1 y2 y3 y4 y5
        obtain ⟨x0, x1, x2, x3, x4, x5⟩ := T16.out.cells
        obtain ⟨y0, y1, y2, y3, y4, y5⟩ := U16.out.cells
        go_wp2_with fail
        refine (HW.out _).mono ?_
        rintro e900 w900 ⟨rfl, g900⟩
        have G900 := Lh (G16.out.trans g900)
        clear g900 x0 x1 x2 x3 x4 x5 y0 y1 y2 y3 y4 y5
        go_wp2_with fail
        refine (HPx.out _).mono ?_
        rintro e901 w901 ⟨rfl, rfl⟩
        go_wp2_with fail
        go_ret
        exact ⟨rfl, G900.out⟩
       | false =>
        rw [show ((false && true) || (true && (false || false || ((false || false) && d)))) = false from rfl]
        go_enter Tryz.func42, Tryz.ntmps42
        go_wp2_with fail
        refine (HA.out _).mono ?_
        rintro e17 w17 ⟨rfl, g17⟩
        have G17 := Lh (G0.out.trans g17)
        have T17 := Lh (T0.out.gr g17)
        have U17 := Lh (U0.out.gr g17)
        clear g17 x0 x1 x2 x3 x4 x5 y0 y1 y2 y3 y4 y5
        obtain ⟨x0, x1, x2, x3, x4, x5⟩ := T17.out.cells
        obtain ⟨y0, y1, y2, y3, y4, y5⟩ := U17.out.cells
        go_wp2_with fail
        refine (H36.out _).mono ?_
        rintro e18 w18 ⟨rfl, g18⟩
        have G18 := Lh (G17.out.trans g18)
        have T18 := Lh (T17.out.gr g18)
        have U18 := Lh (U17.out.gr g18)
        clear g18 x0 x1 x2 x3 x4 x5 y0 y1 y2 y3 y4 y5
        obtain ⟨x0, x1, x2, x3, x4, x5⟩ := T18.out.cells
        obtain ⟨y0, y1, y2, y3, y4, y5⟩ := U18.out.cells
        go_wp2_with fail
        refine (H64.out _).mono ?_
        rintro e19 w19 ⟨rfl, g19⟩
        have G19 := Lh (G18.out.trans g19)
        have T19 := Lh (T18.out.gr g19)
        have U19 := Lh (U18.out.gr g19)
        clear g19 x0 x1 x2 x3 x4 x5 y0 y1 y2 y3 y4 y5
        obtain ⟨x0, x1, x2, x3, x4, x5⟩ := T19.out.cells
        obtain ⟨y0, y1, y2, y3, y4, y5⟩ := U19.out.cells
        go_wp2_with fail
        refine (H37.out _).mono ?_
        rintro e20 w20 ⟨rfl, g20⟩
        have G20 := Lh (G19.out.trans g20)
        have T20 := Lh (T19.out.gr g20)
        have U20 := Lh (U19.out.gr g20)
        clear g20 x0 x1 x2 x3 x4 x5 y0 y1 y2 y3 y4 y5
        obtain ⟨x0, x1, x2, x3, x4, x5⟩ := T20.out.cells
        obtain ⟨y0, y1, y2, y3, y4, y5⟩ := U20.out.cells
        go_wp2_with fail
        refine (H38.out _).mono ?_
        rintro e21 w21 ⟨rfl, g21⟩
        have G21 := Lh (G20.out.trans g21)
        have T21 := Lh (T20.out.gr g21)
        have U21 := Lh (U20.out.gr g21)
        clear g21 x0 x1 x2 x3 x4 x5 y0 y1 y2 y3 y4 y5
        obtain ⟨x0, x1, x2, x3, x4, x5⟩ := T21.out.cells
        obtain ⟨y0, y1, y2, y3, y4, y5⟩ := U21.out.cells
        go_wp2_with fail
        go_ret
        exact ⟨rfl, G21.out⟩
 ·have h2o : (u.opn == 2) = false := by simpa using ho
  rw [h2o]
  clear ho
  rw [Bool.and_false]
  cases a
  all_goals
   cases term with
   | false =>
    rw [show (false || (false && (b36 || b64 || ((b37 || b38) && d)))) = false from rfl]
    go_enter Tryz.func42, Tryz.ntmps42
    go_wp2_with fail
    refine (HA.out _).mono ?_
    rintro e22 w22 ⟨rfl, g22⟩
    have G22 := Lh (G0.out.trans g22)
    have T22 := Lh (T0.out.gr g22)
    have U22 := Lh (U0.out.gr g22)
    clear g22 x0 x1 x2 x3 x4 x5 y0 y1 y2 y3 y4 y5
    obtain ⟨x0, x1, x2, x3, x4, x5⟩ := T22.out.cells
    obtain ⟨y0, y1, y2, y3, y4, y5⟩ := U22.out.cells
    go_wp2_with fail
    go_ret
    exact ⟨rfl, G22.out⟩
   | true =>
    cases b36 with
    | true =>
     rw [show (false || (true && (true || b64 || ((b37 || b38) && d)))) = true from rfl]
     go_enter Tryz.func42, Tryz.ntmps42
     go_wp2_with fail
     refine (HA.out _).mono ?_
     rintro e23 w23 ⟨rfl, g23⟩
     have G23 := Lh (G0.out.trans g23)
     have T23 := Lh (T0.out.gr g23)
     have U23 := Lh (U0.out.gr g23)
     clear g23 x0 x1 x2 x3 x4 x5 y0 y1 y2 y3 y4 y5
     obtain ⟨x0, x1, x2, x3, x4, x5⟩ := T23.out.cells
     obtain ⟨y0, y1, y2, y3, y4, y5⟩ := U23.out.cells
     go_wp2_with fail
     refine (H36.out _).mono ?_
     rintro e24 w24 ⟨rfl, g24⟩
     have G24 := Lh (G23.out.trans g24)
     have T24 := Lh (T23.out.gr g24)
     have U24 := Lh (U23.out.gr g24)
     clear g24 x0 x1 x2 x3 x4 x5 y0 y1 y2 y3 y4 y5
     obtain ⟨x0, x1, x2, x3, x4, x5⟩ := T24.out.cells
     obtain ⟨y0, y1, y2, y3, y4, y5⟩ := U24.out.cells
     go_wp2_with fail
     go_ret
     exact ⟨rfl, G24.out⟩
    | false =>
     cases b64 with
     | true =>
      rw [show (false || (true && (false || true || ((b37 || b38) && d)))) = true from rfl]
      go_enter Tryz.func42, Tryz.ntmps42
      go_wp2_with fail
      refine (HA.out _).mono ?_
      rintro e25 w25 ⟨rfl, g25⟩
      have G25 := Lh (G0.out.trans g25)
      have T25 := Lh (T0.out.gr g25)
      have U25 := Lh (U0.out.gr g25)
      clear g25 x0 x1 x2 x3 x4 x5 y0 y1 y2 y3 y4 y5
      obtain ⟨x0, x1, x2, x3, x4, x5⟩ := T25.out.cells
      obtain ⟨y0, y1, y2, y3, y4, y5⟩ := U25.out.cells
      go_wp2_with fail
      refine (H36.out _).mono ?_
      rintro e26 w26 ⟨rfl, g26⟩
      have G26 := Lh (G25.out.trans g26)
      have T26 := Lh (T25.out.gr g26)
      have U26 := Lh (U25.out.gr g26)
      clear g26 x0 x1 x2 x3 x4 x5 y0 y1 y2 y3 y4 y5
      obtain ⟨x0, x1, x2, x3, x4, x5⟩ := T26.out.cells
      obtain ⟨y0, y1, y2, y3, y4, y5⟩ := U26.out.cells
      go_wp2_with fail
      refine (H64.out _).mono ?_
      rintro e27 w27 ⟨rfl, g27⟩
      have G27 := Lh (G26.out.trans g27)
      have T27 := Lh (T26.out.gr g27)
      have U27 := Lh (U26.out.gr g27)
      clear g27 x0 x1 x2 x3 x4 x5 y0 y1 y2 y3 y4 y5
      obtain ⟨x0, x1, x2, x3, x4, x5⟩ := T27.out.cells
      obtain ⟨y0, y1, y2, y3, y4, y5⟩ := U27.out.cells
      go_wp2_with fail
      go_ret
      exact ⟨rfl, G27.out⟩
     | false =>
      cases b37 with
      | true =>
       rw [show (false || (true && (false || false || ((true || b38) && d)))) = d from by cases d <;> rfl]
       go_enter Tryz.func42, Tryz.ntmps42
       go_wp2_with fail
       refine (HA.out _).mono ?_
       rintro e28 w28 ⟨rfl, g28⟩
       have G28 := Lh (G0.out.trans g28)
       have T28 := Lh (T0.out.gr g28)
       have U28 := Lh (U0.out.gr g28)
       clear g28 x0 x1 x2 x3 x4 x5 y0 y1 y2 y3 y4 y5
       obtain ⟨x0, x1, x2, x3, x4, x5⟩ := T28.out.cells
       obtain ⟨y0, y1, y2, y3, y4, y5⟩ := U28.out.cells
       go_wp2_with fail
       refine (H36.out _).mono ?_
       rintro e29 w29 ⟨rfl, g29⟩
       have G29 := Lh (G28.out.trans g29)
       have T29 := Lh (T28.out.gr g29)
       have U29 := Lh (U28.out.gr g29)
       clear g29 x0 x1 x2 x3 x4 x5 y0 y1 y2 y3 y4 y5
       obtain ⟨x0, x1, x2, x3, x4, x5⟩ := T29.out.cells
       obtain ⟨y0, y1, y2, y3, y4, y5⟩ := U29.out.cells
       go_wp2_with fail
       refine (H64.out _).mono ?_
       rintro e30 w30 ⟨rfl, g30⟩
       have G30 := Lh (G29.out.trans g30)
       have T30 := Lh (T29.out.gr g30)
       have U30 := Lh (U29.out.gr g30)
       clear g30 x0 x1 x2 x3 x4 x5 y0 y1 y2 y3 y4 y5
       obtain ⟨x0, x1, x2, x3, x4, x5⟩ := T30.out.cells
       obtain ⟨y0, y1, y2, y3, y4, y5⟩ := U30.out.cells
       go_wp2_with fail
       refine (H37.out _).mono ?_
       rintro e31 w31 ⟨rfl, g31⟩
       have G31 := Lh (G30.out.trans g31)
       have T31 := Lh (T30.out.gr g31)
       have U31 := Lh (U30.out.gr g31)
       clear g31 x0 x1 x2 x3 x4 x5 y0 y1 y2 y3 y4 y5
       obtain ⟨x0, x1, x2, x3, x4, x5⟩ := T31.out.cells
       obtain ⟨y0, y1, y2, y3, y4, y5⟩ := U31.out.cells
       go_wp2_with fail
       refine (HW.out _).mono ?_
       rintro e900 w900 ⟨rfl, g900⟩
       have G900 := Lh (G31.out.trans g900)
       clear g900 x0 x1 x2 x3 x4 x5 y0 y1 y2 y3 y4 y5
       go_wp2_with fail
       refine (HPx.out _).mono ?_
       rintro e901 w901 ⟨rfl, rfl⟩
       go_wp2_with fail
       go_ret
       exact ⟨rfl, G900.out⟩
      | false =>
       cases b38 with
       | true =>
        rw [show (false || (true && (false || false || ((false || true) && d)))) = d from by cases d <;> rfl]
        go_enter Tryz.func42, Tryz.ntmps42
        go_wp2_with fail
        refine (HA.out _).mono ?_
        rintro e32 w32 ⟨rfl, g32⟩
        have G32 := Lh (G0.out.trans g32)
        have T32 := Lh (T0.out.gr g32)
        have U32 := Lh (U0.out.gr g32)
        clear g32 x0 x1 x2 x3 x4 x5 y0 y1 y2 y3 y4 y5
        obtain ⟨x0, x1, x2, x3, x4, x5⟩ := T32.out.cells
        obtain ⟨y0, y1, y2, y3, y4, y5⟩ := U32.out.cells
        go_wp2_with fail
        refine (H36.out _).mono ?_
        rintro e33 w33 ⟨rfl, g33⟩
        have G33 := Lh (G32.out.trans g33)
        have T33 := Lh (T32.out.gr g33)
        have U33 := Lh (U32.out.gr g33)
        clear g33 x0 x1 x2 x3 x4 x5 y0 y1 y2 y3 y4 y5
        obtain ⟨x0, x1, x2, x3, x4, x5⟩ := T33.out.cells
        obtain ⟨y0, y1, y2, y3, y4, y5⟩ := U33.out.cells
        go_wp2_with fail
        refine (H64.out _).mono ?_
        rintro e34 w34 ⟨rfl, g34⟩
        have G34 := Lh (G33.out.trans g34)
        have T34 := Lh (T33.out.gr g34)
        have U34 := Lh (U33.out.gr g34)
        clear g34 x0 x1 x2 x3 x4 x5 y0 y1 y2 y3 y4 y5
        obtain ⟨x0, x1, x2, x3, x4, x5⟩ := T34.out.cells
        obtain ⟨y0, y1, y2, y3, y4, y5⟩ := U34.out.cells
        go_wp2_with fail
        refine (H37.out _).mono ?_
        rintro e35 w35 ⟨rfl, g35⟩
        have G35 := Lh (G34.out.trans g35)
        have T35 := Lh (T34.out.gr g35)
        have U35 := Lh (U34.out.gr g35)
        clear g35 x0 x1 x2 x3 x4 x5 y0 y1 y2 y3 y4 y5
        obtain ⟨x0, x1, x2, x3, x4, x5⟩ := T35.out.cells
        obtain ⟨y0, y1, y2, y3, y4, y5⟩ := U35.out.cells
        go_wp2_with fail
        refine (H38.out _).mono ?_
        rintro e36 w36 ⟨rfl, g36⟩
        have G36 := Lh (G35.out.trans g36)
        have T36 := Lh (T35.out.gr g36)
        have U36 := Lh (U35.out.gr g36)
        clear g36 x0 x1 x2 x3 x4 x5 y0 y1 y2 y3 y4 y5
        obtain ⟨x0, x1, x2, x3, x4, x5⟩ := T36.out.cells
        obtain ⟨y0, y1, y2, y3, y4, y5⟩ := U36.out.cells
        go_wp2_with fail
        refine (HW.out _).mono ?_
        rintro e900 w900 ⟨rfl, g900⟩
        have G900 := Lh (G36.out.trans g900)
        clear g900 x0 x1 x2 x3 x4 x5 y0 y1 y2 y3 y4 y5
        go_wp2_with fail
        refine (HPx.out _).mono ?_
        rintro e901 w901 ⟨rfl, rfl⟩
        go_wp2_with fail
        go_ret
        exact ⟨rfl, G900.out⟩
       | false =>
        rw [show (false || (true && (false || false || ((false || false) && d)))) = false from rfl]
        go_enter Tryz.func42, Tryz.ntmps42
        go_wp2_with fail
        refine (HA.out _).mono ?_
        rintro e37 w37 ⟨rfl, g37⟩
        have G37 := Lh (G0.out.trans g37)
        have T37 := Lh (T0.out.gr g37)
        have U37 := Lh (U0.out.gr g37)
        clear g37 x0 x1 x2 x3 x4 x5 y0 y1 y2 y3 y4 y5
        obtain ⟨x0, x1, x2, x3, x4, x5⟩ := T37.out.cells
        obtain ⟨y0, y1, y2, y3, y4, y5⟩ := U37.out.cells
        go_wp2_with fail
        refine (H36.out _).mono ?_
        rintro e38 w38 ⟨rfl, g38⟩
        have G38 := Lh (G37.out.trans g38)
        have T38 := Lh (T37.out.gr g38)
        have U38 := Lh (U37.out.gr g38)
        clear g38 x0 x1 x2 x3 x4 x5 y0 y1 y2 y3 y4 y5
        obtain ⟨x0, x1, x2, x3, x4, x5⟩ := T38.out.cells
        obtain ⟨y0, y1, y2, y3, y4, y5⟩ := U38.out.cells
        go_wp2_with fail
        refine (H64.out _).mono ?_
        rintro e39 w39 ⟨rfl, g39⟩
        have G39 := Lh (G38.out.trans g39)
        have T39 := Lh (T38.out.gr g39)
        have U39 := Lh (U38.out.gr g39)
        clear g39 x0 x1 x2 x3 x4 x5 y0 y1 y2 y3 y4 y5
        obtain ⟨x0, x1, x2, x3, x4, x5⟩ := T39.out.cells
        obtain ⟨y0, y1, y2, y3, y4, y5⟩ := U39.out.cells
        go_wp2_with fail
        refine (H37.out _).mono ?_
        rintro e40 w40 ⟨rfl, g40⟩
        have G40 := Lh (G39.out.trans g40)
        have T40 := Lh (T39.out.gr g40)
        have U40 := Lh (U39.out.gr g40)
        clear g40 x0 x1 x2 x3 x4 x5 y0 y1 y2 y3 y4 y5
        obtain ⟨x0, x1, x2, x3, x4, x5⟩ := T40.out.cells
        obtain ⟨y0, y1, y2, y3, y4, y5⟩ := U40.out.cells
        go_wp2_with fail
        refine (H38.out _).mono ?_
        rintro e41 w41 ⟨rfl, g41⟩
        have G41 := Lh (G40.out.trans g41)
        have T41 := Lh (T40.out.gr g41)
        have U41 := Lh (U40.out.gr g41)
        clear g41 x0 x1 x2 x3 x4 x5 y0 y1 y2 y3 y4 y5
        obtain ⟨x0, x1, x2, x3, x4, x5⟩ := T41.out.cells
        obtain ⟨y0, y1, y2, y3, y4, y5⟩ := U41.out.cells
        go_wp2_with fail
        go_ret
        exact ⟨rfl, G41.out⟩
end Go.Proofs.YthmopindibdhnaaGreatDoor.G
