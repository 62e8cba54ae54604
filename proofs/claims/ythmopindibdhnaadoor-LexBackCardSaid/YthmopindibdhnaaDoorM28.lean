/- BJWrp BJTg LLSame BkJ -/
import Derived.Test.YthmopindibdhnaaDoorM26
import Derived.Test.YthmopindibdhnaaDoorM27
import Derived.Test.YthmopindibdhnaaDoorM25
import Derived.Test.YthmopindibdhnaaDoorM20
import Derived.Test.YthmopindibdhnaaDoorM21
namespace Go.Proofs.YthmopindibdhnaaDoor.G
open Go.RowKit Go.Shelf Go.Maps
set_option maxRecDepth 100000 in
set_option maxHeartbeats 1000000 in
theorem wr_p (k p o : Int) (t r m : ByteArray) (hs : t.size + r.size + m.size ≤ 1000000) (w : World) : Calls Tryd.prog 15 #[.agg #[.int .i64 k, .int .i64 p, .string t, .string r, .string m, .int .i64 o]] w fun e w' => e = .returned (.string (ba (wrB ⟨k, p, t, r, m, o⟩))) ∧ Gr w w' := by
  have HG1 : Hid (Gr w (w.alloc (.cells #[.int .i64 k, .int .i64 p, .string t, .string r, .string m, .int .i64 o] 32))) := Lib.hid ((Gr.refl w).alloc _)
  have HK1 := Lib.hid (heap_alloc_new w (.cells #[.int .i64 k, .int .i64 p, .string t, .string r, .string m, .int .i64 o] 32))
  obtain ⟨kc, kf⟩ := cellsOf HK1.out
  have k0 := kc 0
  have k1 := kc 1
  have k2 := kc 2
  have k3 := kc 3
  have k4 := kc 4
  have k5 := kc 5
  simp at k0 k1 k2 k3 k4 k5
  clear kc
  have ht : t.size ≤ 1000000 := by omega
  have hr : r.size ≤ 1000000 := by omega
  have hm : m.size ≤ 1000000 := by omega
  have HE := Lib.hid (fun (z s : ByteArray) (hs : s.size ≤ 1000000) (hz : z.size ≤ 10) (hd : z.data.toList.Nodup) w => escG_p z s hs w)
  by_cases h4 : k = 4
  · subst h4
    have HQ := Lib.hid (fun w => quoted_g t ht w)
    rw [show wrB ⟨4, p, t, r, m, o⟩ = [39] ++ escG [39, 92] t.data.toList ++ [39] from rfl]
    clear HE hs
    go_enter Tryd.func15, Tryd.ntmps15
    go_wp2_with fail
    refine (HQ.out _).mono ?_
    rintro e w1 ⟨rfl, g⟩
    have G1 := Lib.hid (HG1.out.trans g)
    clear g
    go_wp2_with fail
    go_ret
    exact ⟨rfl, G1.out⟩
  by_cases h5 : k = 5
  · subst h5
    have HV : Hid ((⟨#[34]⟩ ++ t ++ ⟨#[34]⟩ : ByteArray) = ba (wrB ⟨5, p, t, r, m, o⟩)) := Lib.hid (ba_is (by rw [app_data, app_data]; rfl))
    rw [← HV.out]
    clear HV HE hs h4
    go_enter Tryd.func15, Tryd.ntmps15
    go_wp2_with fail
    go_ret
    exact ⟨rfl, HG1.out⟩
  by_cases h6 : k = 6
  · subst h6
    have HE1 := Lib.hid (fun w => HE.out ⟨#[40, 41, 92]⟩ t ht (by decide) (by decide) w)
    rw [show (⟨#[40, 41, 92]⟩ : ByteArray).data.toList = [40, 41, 92] from rfl] at HE1
    obtain ⟨E, hE⟩ : ∃ E, E = ba (escG [40, 41, 92] t.data.toList) := ⟨_, rfl⟩
    have hz : E.size ≤ 2000000 := by rw [hE, ba_len]; have := escG_len [40, 41, 92] t.data.toList; rw [sizeL] at this; omega
    have HV : Hid ((⟨#[113, 119, 40]⟩ ++ E ++ ⟨#[41]⟩ : ByteArray) = ba (wrB ⟨6, p, t, r, m, o⟩)) := Lib.hid (ba_is (by rw [app_data, app_data, hE, ba_data]; rfl))
    rw [← HV.out]
    rw [← hE] at HE1
    clear hE HV HE hs h4 h5
    go_enter Tryd.func15, Tryd.ntmps15
    go_wp2_with fail
    refine (HE1.out _).mono ?_
    rintro e w1 ⟨rfl, g⟩
    have G1 := Lib.hid (HG1.out.trans g)
    clear g
    go_wp2_with fail
    go_ret
    exact ⟨rfl, G1.out⟩
  by_cases h7 : k = 7
  · subst h7
    have HE1 := Lib.hid (fun w => HE.out ⟨#[47]⟩ t ht (by decide) (by decide) w)
    rw [show (⟨#[47]⟩ : ByteArray).data.toList = [47] from rfl] at HE1
    obtain ⟨E, hE⟩ : ∃ E, E = ba (escG [47] t.data.toList) := ⟨_, rfl⟩
    have hz : E.size ≤ 2000000 := by rw [hE, ba_len]; have := escG_len [47] t.data.toList; rw [sizeL] at this; omega
    have HV : Hid ((⟨#[109, 47]⟩ ++ E ++ ⟨#[47]⟩ ++ m : ByteArray) = ba (wrB ⟨7, p, t, r, m, o⟩)) := Lib.hid (ba_is (by rw [app_data, app_data, app_data, hE, ba_data]; rfl))
    rw [← HV.out]
    rw [← hE] at HE1
    clear hE HV HE hs h4 h5 h6
    go_enter Tryd.func15, Tryd.ntmps15
    go_wp2_with fail
    have HE2 := Lib.hid (HE1.out (w.alloc (.cells #[.int .i64 7, .int .i64 p, .string t, .string r, .string m, .int .i64 o] 32)).drew)
    have GD := Lib.hid (HG1.out.drew)
    go_region_with (go_at_call 26; refine (HE2.out).mono ?_; rintro e9 w9 ⟨rfl, g9⟩; have G9 := Lib.hid (GD.out.trans g9); have K9 := Lib.hid (((((Gr.refl _).drew).trans g9).block _ (Array.getElem?_eq_some_iff.1 HK1.out).1).trans HK1.out); clear g9; obtain ⟨kc9, _⟩ := cellsOf K9.out; have d4 := kc9 4; simp at d4; clear kc9)
    all_goals
      go_wp2_with fail
      go_ret
      exact ⟨rfl, G9.out⟩
  by_cases h8 : k = 8
  · subst h8; exact wr_p8 p o t r m hs w
  by_cases h9 : k = 9
  · subst h9; exact wr_p9 p o t r m hs w
  have t4 : (k == 4) = false := by simpa using h4
  have t5 : (k == 5) = false := by simpa using h5
  have t6 : (k == 6) = false := by simpa using h6
  have t7 : (k == 7) = false := by simpa using h7
  have t8 : (k == 8) = false := by simpa using h8
  have t9 : (k == 9) = false := by simpa using h9
  have HV : Hid (t = ba (wrB ⟨k, p, t, r, m, o⟩)) := Lib.hid (ba_is (by unfold wrB; simp only; rw [if_neg h4, if_neg h5, if_neg h6, if_neg h7, if_neg h8, if_neg h9]))
  rw [← HV.out]
  clear HV HE hs h4 h5 h6 h7 h8 h9
  go_enter Tryd.func15, Tryd.ntmps15
  go_wp2_with fail
  go_ret
  exact ⟨rfl, HG1.out⟩
end Go.Proofs.YthmopindibdhnaaDoor.G
namespace Go.Proofs.YthmopindibdhnaaDoor.G
open Go.RowKit Go.Shelf Go.Maps
/-- a brace before which no blank stands -/
def subS (u : Tok) : Bool := isSgT u [123] && u.opn == 2
/-- a sign behind which no blank stands; d: what follows begins with `$` -/
def sigT (t : Tok) (d term : Bool) : Bool := term && (isSgT t [36] || isSgT t [64] || ((isSgT t [37] || isSgT t [38]) && d))
def dolB (u : Tok) : Bool := (wrB u).head? == some 36
def tightB (t u : Tok) (term : Bool) : Bool := subS u || sigT t (dolB u) term
def afterB (t : Tok) (term : Bool) : Bool := behindB t.kind t.text.data.toList t.opn term
/-- what stands between two tokens -/
def sepB (t : Tok) (rest : List Tok) (term : Bool) : List UInt8 := match rest with
  | [] => []
  | u :: _ => if tightB t u term = true then [] else [32]
/-- the source of tokens -/
def joinL : Bool → List Tok → List UInt8
  | _, [] => []
  | term, t :: rest => wrB t ++ (sepB t rest term ++ joinL (afterB t term) rest)
def wgts (l : List Tok) : Nat := (l.map fun t => wgt t + 1).sum
theorem joinL_len : ∀ (term : Bool) (l : List Tok), (joinL term l).length ≤ wgts l
  | _, [] => Nat.le_refl _
  | term, t :: rest => by
    have h1 := wrB_len t
    have h2 := joinL_len (afterB t term) rest
    have h3 : (sepB t rest term).length ≤ 1 := by
      unfold sepB
      split
      · simp
      · split <;> simp
    unfold joinL
    unfold wgts at h2 ⊢
    simp only [List.length_append, List.map_cons, List.sum_cons]
    omega
/-- a token lies in a block -/
def TokAt (W : World) (b : Nat) (t : Tok) : Prop := W.heap[b]? = some (.cells #[.int .i64 t.kind, .int .i64 t.place, .string t.text, .string t.repl, .string t.more, .int .i64 t.opn] 32 (0, 0))
theorem TokAt.gr {W W' : World} {b : Nat} {t : Tok} (h : TokAt W b t) (g : Gr W W') : TokAt W' b t := (g.block _ (Array.getElem?_eq_some_iff.1 h).1).trans h
theorem TokAt.cells {W : World} {b : Nat} {t : Tok} (h : TokAt W b t) : W.cell? ⟨b, 0, none⟩ = some (.int .i64 t.kind) ∧ W.cell? ⟨b, 1, none⟩ = some (.int .i64 t.place) ∧ W.cell? ⟨b, 2, none⟩ = some (.string t.text) ∧
    W.cell? ⟨b, 3, none⟩ = some (.string t.repl) ∧ W.cell? ⟨b, 4, none⟩ = some (.string t.more) ∧ W.cell? ⟨b, 5, none⟩ = some (.int .i64 t.opn) := by
  unfold TokAt at h
  simp [World.cell?, h]
theorem dol_pre (u : Tok) : Lib.hasPrefix (ba (wrB u)).data.toList [36] = dolB u := by
  rw [ba_data]
  unfold dolB
  cases wrB u with
  | nil => rfl
  | cons c t =>
    show ((36 : UInt8) == c && true) = ((some c : Option UInt8) == some 36)
    by_cases h : c = 36
    · subst h; rfl
    · have h1 : ((36 : UInt8) == c) = false := by simpa using fun e : 36 = c => h e.symm
      have h2 : ((some c : Option UInt8) == some 36) = false := by simpa using h
      rw [h1, h2]; rfl
set_option maxRecDepth 100000 in
set_option maxHeartbeats 2000000 in
theorem tight_p (t u : Tok) (hu : u.text.size + u.repl.size + u.more.size ≤ 1000000) (term : Bool) (w : World) :
    Calls Tryd.prog 16 #[.agg #[.int .i64 t.kind, .int .i64 t.place, .string t.text, .string t.repl, .string t.more, .int .i64 t.opn], .agg #[.int .i64 u.kind, .int .i64 u.place, .string u.text, .string u.repl, .string u.more, .int .i64 u.opn], .bool term] w fun e w' => e = .returned (.bool (tightB t u term)) ∧ Gr w w' := by
  have G0 : Hid (Gr w ((w.alloc (.cells #[.int .i64 t.kind, .int .i64 t.place, .string t.text, .string t.repl, .string t.more, .int .i64 t.opn] 32)).alloc (.cells #[.int .i64 u.kind, .int .i64 u.place, .string u.text, .string u.repl, .string u.more, .int .i64 u.opn] 32))) := Lib.hid (((Gr.refl w).alloc _).alloc _)
  have T0 : Hid (TokAt ((w.alloc (.cells #[.int .i64 t.kind, .int .i64 t.place, .string t.text, .string t.repl, .string t.more, .int .i64 t.opn] 32)).alloc (.cells #[.int .i64 u.kind, .int .i64 u.place, .string u.text, .string u.repl, .string u.more, .int .i64 u.opn] 32)) w.heap.size t) := Lib.hid (by unfold TokAt; rw [(((Gr.refl (w.alloc (.cells #[.int .i64 t.kind, .int .i64 t.place, .string t.text, .string t.repl, .string t.more, .int .i64 t.opn] 32))).alloc (.cells #[.int .i64 u.kind, .int .i64 u.place, .string u.text, .string u.repl, .string u.more, .int .i64 u.opn] 32))).block _ (by simp)]; exact heap_alloc_new w _)
  have U0 : Hid (TokAt ((w.alloc (.cells #[.int .i64 t.kind, .int .i64 t.place, .string t.text, .string t.repl, .string t.more, .int .i64 t.opn] 32)).alloc (.cells #[.int .i64 u.kind, .int .i64 u.place, .string u.text, .string u.repl, .string u.more, .int .i64 u.opn] 32)) (w.heap.size + 1) u) := Lib.hid (by unfold TokAt; have := heap_alloc_new (w.alloc (.cells #[.int .i64 t.kind, .int .i64 t.place, .string t.text, .string t.repl, .string t.more, .int .i64 t.opn] 32)) (.cells #[.int .i64 u.kind, .int .i64 u.place, .string u.text, .string u.repl, .string u.more, .int .i64 u.opn] 32); simpa using this)
  obtain ⟨x0, x1, x2, x3, x4, x5⟩ := T0.out.cells
  obtain ⟨y0, y1, y2, y3, y4, y5⟩ := U0.out.cells
  have HA := Lib.hid (fun w => isSignOf_p u ⟨#[123]⟩ w)
  have H36 := Lib.hid (fun w => isSignOf_p t ⟨#[36]⟩ w)
  have H64 := Lib.hid (fun w => isSignOf_p t ⟨#[64]⟩ w)
  have H37 := Lib.hid (fun w => isSignOf_p t ⟨#[37]⟩ w)
  have H38 := Lib.hid (fun w => isSignOf_p t ⟨#[38]⟩ w)
  rw [show (⟨#[123]⟩ : ByteArray).data.toList = [123] from rfl] at HA
  rw [show (⟨#[36]⟩ : ByteArray).data.toList = [36] from rfl] at H36
  rw [show (⟨#[64]⟩ : ByteArray).data.toList = [64] from rfl] at H64
  rw [show (⟨#[37]⟩ : ByteArray).data.toList = [37] from rfl] at H37
  rw [show (⟨#[38]⟩ : ByteArray).data.toList = [38] from rfl] at H38
  have HW := Lib.hid (fun w => wr_p u.kind u.place u.opn u.text u.repl u.more hu w)
  have HPx := Lib.hid (fun w => prefix_any (ba (wrB u)) ⟨#[36]⟩ w)
  rw [show (⟨#[36]⟩ : ByteArray).data.toList = [36] from rfl, dol_pre] at HPx
  unfold tightB subS sigT
  generalize isSgT u [123] = a at *
  generalize isSgT t [36] = b36 at *
  generalize isSgT t [64] = b64 at *
  generalize isSgT t [37] = b37 at *
  generalize isSgT t [38] = b38 at *
  generalize dolB u = d at *
  by_cases ho : u.opn = 2
  · have h2o : (u.opn == 2) = true := by simpa using ho
    rw [h2o]
    clear ho
    cases a with
    | true =>
      rw [show ((true && true) || (term && (b36 || b64 || ((b37 || b38) && d)))) = true from rfl]
      go_enter Tryd.func16, Tryd.ntmps16
      go_wp2_with fail
      refine (HA.out _).mono ?_
      rintro e1 w1 ⟨rfl, g1⟩
      have G1 := Lib.hid (G0.out.trans g1)
      have T1 := Lib.hid (T0.out.gr g1)
      have U1 := Lib.hid (U0.out.gr g1)
      clear g1 x0 x1 x2 x3 x4 x5 y0 y1 y2 y3 y4 y5
      obtain ⟨x0, x1, x2, x3, x4, x5⟩ := T1.out.cells
      obtain ⟨y0, y1, y2, y3, y4, y5⟩ := U1.out.cells
      go_wp2_with fail
      go_ret
      exact ⟨rfl, G1.out⟩
    | false =>
      cases term with
      | false =>
        rw [show ((false && true) || (false && (b36 || b64 || ((b37 || b38) && d)))) = false from rfl]
        go_enter Tryd.func16, Tryd.ntmps16
        go_wp2_with fail
        refine (HA.out _).mono ?_
        rintro e2 w2 ⟨rfl, g2⟩
        have G2 := Lib.hid (G0.out.trans g2)
        have T2 := Lib.hid (T0.out.gr g2)
        have U2 := Lib.hid (U0.out.gr g2)
        clear g2 x0 x1 x2 x3 x4 x5 y0 y1 y2 y3 y4 y5
        obtain ⟨x0, x1, x2, x3, x4, x5⟩ := T2.out.cells
        obtain ⟨y0, y1, y2, y3, y4, y5⟩ := U2.out.cells
        go_wp2_with fail
        go_ret
        exact ⟨rfl, G2.out⟩
      | true =>
        cases b36 with
        | true =>
          rw [show ((false && true) || (true && (true || b64 || ((b37 || b38) && d)))) = true from rfl]
          go_enter Tryd.func16, Tryd.ntmps16
          go_wp2_with fail
          refine (HA.out _).mono ?_
          rintro e3 w3 ⟨rfl, g3⟩
          have G3 := Lib.hid (G0.out.trans g3)
          have T3 := Lib.hid (T0.out.gr g3)
          have U3 := Lib.hid (U0.out.gr g3)
          clear g3 x0 x1 x2 x3 x4 x5 y0 y1 y2 y3 y4 y5
          obtain ⟨x0, x1, x2, x3, x4, x5⟩ := T3.out.cells
          obtain ⟨y0, y1, y2, y3, y4, y5⟩ := U3.out.cells
          go_wp2_with fail
          refine (H36.out _).mono ?_
          rintro e4 w4 ⟨rfl, g4⟩
          have G4 := Lib.hid (G3.out.trans g4)
          have T4 := Lib.hid (T3.out.gr g4)
          have U4 := Lib.hid (U3.out.gr g4)
          clear g4 x0 x1 x2 x3 x4 x5 y0 y1 y2 y3 y4 y5
          obtain ⟨x0, x1, x2, x3, x4, x5⟩ := T4.out.cells
          obtain ⟨y0, y1, y2, y3, y4, y5⟩ := U4.out.cells
          go_wp2_with fail
          go_ret
          exact ⟨rfl, G4.out⟩
        | false =>
          cases b64 with
          | true =>
            rw [show ((false && true) || (true && (false || true || ((b37 || b38) && d)))) = true from rfl]
            go_enter Tryd.func16, Tryd.ntmps16
            go_wp2_with fail
            refine (HA.out _).mono ?_
            rintro e5 w5 ⟨rfl, g5⟩
            have G5 := Lib.hid (G0.out.trans g5)
            have T5 := Lib.hid (T0.out.gr g5)
            have U5 := Lib.hid (U0.out.gr g5)
            clear g5 x0 x1 x2 x3 x4 x5 y0 y1 y2 y3 y4 y5
            obtain ⟨x0, x1, x2, x3, x4, x5⟩ := T5.out.cells
            obtain ⟨y0, y1, y2, y3, y4, y5⟩ := U5.out.cells
            go_wp2_with fail
            refine (H36.out _).mono ?_
            rintro e6 w6 ⟨rfl, g6⟩
            have G6 := Lib.hid (G5.out.trans g6)
            have T6 := Lib.hid (T5.out.gr g6)
            have U6 := Lib.hid (U5.out.gr g6)
            clear g6 x0 x1 x2 x3 x4 x5 y0 y1 y2 y3 y4 y5
            obtain ⟨x0, x1, x2, x3, x4, x5⟩ := T6.out.cells
            obtain ⟨y0, y1, y2, y3, y4, y5⟩ := U6.out.cells
            go_wp2_with fail
            refine (H64.out _).mono ?_
            rintro e7 w7 ⟨rfl, g7⟩
            have G7 := Lib.hid (G6.out.trans g7)
            have T7 := Lib.hid (T6.out.gr g7)
            have U7 := Lib.hid (U6.out.gr g7)
            clear g7 x0 x1 x2 x3 x4 x5 y0 y1 y2 y3 y4 y5
            obtain ⟨x0, x1, x2, x3, x4, x5⟩ := T7.out.cells
            obtain ⟨y0, y1, y2, y3, y4, y5⟩ := U7.out.cells
            go_wp2_with fail
            go_ret
            exact ⟨rfl, G7.out⟩
          | false =>
            cases b37 with
            | true =>
              rw [show ((false && true) || (true && (false || false || ((true || b38) && d)))) = d from by cases d <;> rfl]
              go_enter Tryd.func16, Tryd.ntmps16
              go_wp2_with fail
              refine (HA.out _).mono ?_
              rintro e8 w8 ⟨rfl, g8⟩
              have G8 := Lib.hid (G0.out.trans g8)
              have T8 := Lib.hid (T0.out.gr g8)
              have U8 := Lib.hid (U0.out.gr g8)
              clear g8 x0 x1 x2 x3 x4 x5 y0 y1 y2 y3 y4 y5
              obtain ⟨x0, x1, x2, x3, x4, x5⟩ := T8.out.cells
              obtain ⟨y0, y1, y2, y3, y4, y5⟩ := U8.out.cells
              go_wp2_with fail
              refine (H36.out _).mono ?_
              rintro e9 w9 ⟨rfl, g9⟩
              have G9 := Lib.hid (G8.out.trans g9)
              have T9 := Lib.hid (T8.out.gr g9)
              have U9 := Lib.hid (U8.out.gr g9)
              clear g9 x0 x1 x2 x3 x4 x5 y0 y1 y2 y3 y4 y5
              obtain ⟨x0, x1, x2, x3, x4, x5⟩ := T9.out.cells
              obtain ⟨y0, y1, y2, y3, y4, y5⟩ := U9.out.cells
              go_wp2_with fail
              refine (H64.out _).mono ?_
              rintro e10 w10 ⟨rfl, g10⟩
              have G10 := Lib.hid (G9.out.trans g10)
              have T10 := Lib.hid (T9.out.gr g10)
              have U10 := Lib.hid (U9.out.gr g10)
              clear g10 x0 x1 x2 x3 x4 x5 y0 y1 y2 y3 y4 y5
              obtain ⟨x0, x1, x2, x3, x4, x5⟩ := T10.out.cells
              obtain ⟨y0, y1, y2, y3, y4, y5⟩ := U10.out.cells
              go_wp2_with fail
              refine (H37.out _).mono ?_
              rintro e11 w11 ⟨rfl, g11⟩
              have G11 := Lib.hid (G10.out.trans g11)
              have T11 := Lib.hid (T10.out.gr g11)
              have U11 := Lib.hid (U10.out.gr g11)
              clear g11 x0 x1 x2 x3 x4 x5 y0 y1 y2 y3 y4 y5
              obtain ⟨x0, x1, x2, x3, x4, x5⟩ := T11.out.cells
              obtain ⟨y0, y1, y2, y3, y4, y5⟩ := U11.out.cells
              go_wp2_with fail
              refine (HW.out _).mono ?_
              rintro e900 w900 ⟨rfl, g900⟩
              have G900 := Lib.hid (G11.out.trans g900)
              clear g900 x0 x1 x2 x3 x4 x5 y0 y1 y2 y3 y4 y5
              go_wp2_with fail
              refine (HPx.out _).mono ?_
              rintro e901 w901 ⟨rfl, rfl⟩
              go_wp2_with fail
              go_ret
              exact ⟨rfl, G900.out⟩
            | false =>
              cases b38 with
              | true =>
                rw [show ((false && true) || (true && (false || false || ((false || true) && d)))) = d from by cases d <;> rfl]
                go_enter Tryd.func16, Tryd.ntmps16
                go_wp2_with fail
                refine (HA.out _).mono ?_
                rintro e12 w12 ⟨rfl, g12⟩
                have G12 := Lib.hid (G0.out.trans g12)
                have T12 := Lib.hid (T0.out.gr g12)
                have U12 := Lib.hid (U0.out.gr g12)
                clear g12 x0 x1 x2 x3 x4 x5 y0 y1 y2 y3 y4 y5
                obtain ⟨x0, x1, x2, x3, x4, x5⟩ := T12.out.cells
                obtain ⟨y0, y1, y2, y3, y4, y5⟩ := U12.out.cells
                go_wp2_with fail
                refine (H36.out _).mono ?_
                rintro e13 w13 ⟨rfl, g13⟩
                have G13 := Lib.hid (G12.out.trans g13)
                have T13 := Lib.hid (T12.out.gr g13)
                have U13 := Lib.hid (U12.out.gr g13)
                clear g13 x0 x1 x2 x3 x4 x5 y0 y1 y2 y3 y4 y5
                obtain ⟨x0, x1, x2, x3, x4, x5⟩ := T13.out.cells
                obtain ⟨y0, y1, y2, y3, y4, y5⟩ := U13.out.cells
                go_wp2_with fail
                refine (H64.out _).mono ?_
                rintro e14 w14 ⟨rfl, g14⟩
                have G14 := Lib.hid (G13.out.trans g14)
                have T14 := Lib.hid (T13.out.gr g14)
                have U14 := Lib.hid (U13.out.gr g14)
                clear g14 x0 x1 x2 x3 x4 x5 y0 y1 y2 y3 y4 y5
                obtain ⟨x0, x1, x2, x3, x4, x5⟩ := T14.out.cells
                obtain ⟨y0, y1, y2, y3, y4, y5⟩ := U14.out.cells
                go_wp2_with fail
                refine (H37.out _).mono ?_
                rintro e15 w15 ⟨rfl, g15⟩
                have G15 := Lib.hid (G14.out.trans g15)
                have T15 := Lib.hid (T14.out.gr g15)
                have U15 := Lib.hid (U14.out.gr g15)
                clear g15 x0 x1 x2 x3 x4 x5 y0 y1 y2 y3 y4 y5
                obtain ⟨x0, x1, x2, x3, x4, x5⟩ := T15.out.cells
                obtain ⟨y0, y1, y2, y3, y4, y5⟩ := U15.out.cells
                go_wp2_with fail
                refine (H38.out _).mono ?_
                rintro e16 w16 ⟨rfl, g16⟩
                have G16 := Lib.hid (G15.out.trans g16)
                have T16 := Lib.hid (T15.out.gr g16)
                have U16 := Lib.hid (U15.out.gr g16)
                clear g16 x0 x1 x2 x3 x4 x5 y0 y1 y2 y3 y4 y5
                obtain ⟨x0, x1, x2, x3, x4, x5⟩ := T16.out.cells
                obtain ⟨y0, y1, y2, y3, y4, y5⟩ := U16.out.cells
                go_wp2_with fail
                refine (HW.out _).mono ?_
                rintro e900 w900 ⟨rfl, g900⟩
                have G900 := Lib.hid (G16.out.trans g900)
                clear g900 x0 x1 x2 x3 x4 x5 y0 y1 y2 y3 y4 y5
                go_wp2_with fail
                refine (HPx.out _).mono ?_
                rintro e901 w901 ⟨rfl, rfl⟩
                go_wp2_with fail
                go_ret
                exact ⟨rfl, G900.out⟩
              | false =>
                rw [show ((false && true) || (true && (false || false || ((false || false) && d)))) = false from rfl]
                go_enter Tryd.func16, Tryd.ntmps16
                go_wp2_with fail
                refine (HA.out _).mono ?_
                rintro e17 w17 ⟨rfl, g17⟩
                have G17 := Lib.hid (G0.out.trans g17)
                have T17 := Lib.hid (T0.out.gr g17)
                have U17 := Lib.hid (U0.out.gr g17)
                clear g17 x0 x1 x2 x3 x4 x5 y0 y1 y2 y3 y4 y5
                obtain ⟨x0, x1, x2, x3, x4, x5⟩ := T17.out.cells
                obtain ⟨y0, y1, y2, y3, y4, y5⟩ := U17.out.cells
                go_wp2_with fail
                refine (H36.out _).mono ?_
                rintro e18 w18 ⟨rfl, g18⟩
                have G18 := Lib.hid (G17.out.trans g18)
                have T18 := Lib.hid (T17.out.gr g18)
                have U18 := Lib.hid (U17.out.gr g18)
                clear g18 x0 x1 x2 x3 x4 x5 y0 y1 y2 y3 y4 y5
                obtain ⟨x0, x1, x2, x3, x4, x5⟩ := T18.out.cells
                obtain ⟨y0, y1, y2, y3, y4, y5⟩ := U18.out.cells
                go_wp2_with fail
                refine (H64.out _).mono ?_
                rintro e19 w19 ⟨rfl, g19⟩
                have G19 := Lib.hid (G18.out.trans g19)
                have T19 := Lib.hid (T18.out.gr g19)
                have U19 := Lib.hid (U18.out.gr g19)
                clear g19 x0 x1 x2 x3 x4 x5 y0 y1 y2 y3 y4 y5
                obtain ⟨x0, x1, x2, x3, x4, x5⟩ := T19.out.cells
                obtain ⟨y0, y1, y2, y3, y4, y5⟩ := U19.out.cells
                go_wp2_with fail
                refine (H37.out _).mono ?_
                rintro e20 w20 ⟨rfl, g20⟩
                have G20 := Lib.hid (G19.out.trans g20)
                have T20 := Lib.hid (T19.out.gr g20)
                have U20 := Lib.hid (U19.out.gr g20)
                clear g20 x0 x1 x2 x3 x4 x5 y0 y1 y2 y3 y4 y5
                obtain ⟨x0, x1, x2, x3, x4, x5⟩ := T20.out.cells
                obtain ⟨y0, y1, y2, y3, y4, y5⟩ := U20.out.cells
                go_wp2_with fail
                refine (H38.out _).mono ?_
                rintro e21 w21 ⟨rfl, g21⟩
                have G21 := Lib.hid (G20.out.trans g21)
                have T21 := Lib.hid (T20.out.gr g21)
                have U21 := Lib.hid (U20.out.gr g21)
                clear g21 x0 x1 x2 x3 x4 x5 y0 y1 y2 y3 y4 y5
                obtain ⟨x0, x1, x2, x3, x4, x5⟩ := T21.out.cells
                obtain ⟨y0, y1, y2, y3, y4, y5⟩ := U21.out.cells
                go_wp2_with fail
                go_ret
                exact ⟨rfl, G21.out⟩
  · have h2o : (u.opn == 2) = false := by simpa using ho
    rw [h2o]
    clear ho
    rw [Bool.and_false]
    cases a
    all_goals
      cases term with
      | false =>
        rw [show (false || (false && (b36 || b64 || ((b37 || b38) && d)))) = false from rfl]
        go_enter Tryd.func16, Tryd.ntmps16
        go_wp2_with fail
        refine (HA.out _).mono ?_
        rintro e22 w22 ⟨rfl, g22⟩
        have G22 := Lib.hid (G0.out.trans g22)
        have T22 := Lib.hid (T0.out.gr g22)
        have U22 := Lib.hid (U0.out.gr g22)
        clear g22 x0 x1 x2 x3 x4 x5 y0 y1 y2 y3 y4 y5
        obtain ⟨x0, x1, x2, x3, x4, x5⟩ := T22.out.cells
        obtain ⟨y0, y1, y2, y3, y4, y5⟩ := U22.out.cells
        go_wp2_with fail
        go_ret
        exact ⟨rfl, G22.out⟩
      | true =>
        cases b36 with
        | true =>
          rw [show (false || (true && (true || b64 || ((b37 || b38) && d)))) = true from rfl]
          go_enter Tryd.func16, Tryd.ntmps16
          go_wp2_with fail
          refine (HA.out _).mono ?_
          rintro e23 w23 ⟨rfl, g23⟩
          have G23 := Lib.hid (G0.out.trans g23)
          have T23 := Lib.hid (T0.out.gr g23)
          have U23 := Lib.hid (U0.out.gr g23)
          clear g23 x0 x1 x2 x3 x4 x5 y0 y1 y2 y3 y4 y5
          obtain ⟨x0, x1, x2, x3, x4, x5⟩ := T23.out.cells
          obtain ⟨y0, y1, y2, y3, y4, y5⟩ := U23.out.cells
          go_wp2_with fail
          refine (H36.out _).mono ?_
          rintro e24 w24 ⟨rfl, g24⟩
          have G24 := Lib.hid (G23.out.trans g24)
          have T24 := Lib.hid (T23.out.gr g24)
          have U24 := Lib.hid (U23.out.gr g24)
          clear g24 x0 x1 x2 x3 x4 x5 y0 y1 y2 y3 y4 y5
          obtain ⟨x0, x1, x2, x3, x4, x5⟩ := T24.out.cells
          obtain ⟨y0, y1, y2, y3, y4, y5⟩ := U24.out.cells
          go_wp2_with fail
          go_ret
          exact ⟨rfl, G24.out⟩
        | false =>
          cases b64 with
          | true =>
            rw [show (false || (true && (false || true || ((b37 || b38) && d)))) = true from rfl]
            go_enter Tryd.func16, Tryd.ntmps16
            go_wp2_with fail
            refine (HA.out _).mono ?_
            rintro e25 w25 ⟨rfl, g25⟩
            have G25 := Lib.hid (G0.out.trans g25)
            have T25 := Lib.hid (T0.out.gr g25)
            have U25 := Lib.hid (U0.out.gr g25)
            clear g25 x0 x1 x2 x3 x4 x5 y0 y1 y2 y3 y4 y5
            obtain ⟨x0, x1, x2, x3, x4, x5⟩ := T25.out.cells
            obtain ⟨y0, y1, y2, y3, y4, y5⟩ := U25.out.cells
            go_wp2_with fail
            refine (H36.out _).mono ?_
            rintro e26 w26 ⟨rfl, g26⟩
            have G26 := Lib.hid (G25.out.trans g26)
            have T26 := Lib.hid (T25.out.gr g26)
            have U26 := Lib.hid (U25.out.gr g26)
            clear g26 x0 x1 x2 x3 x4 x5 y0 y1 y2 y3 y4 y5
            obtain ⟨x0, x1, x2, x3, x4, x5⟩ := T26.out.cells
            obtain ⟨y0, y1, y2, y3, y4, y5⟩ := U26.out.cells
            go_wp2_with fail
            refine (H64.out _).mono ?_
            rintro e27 w27 ⟨rfl, g27⟩
            have G27 := Lib.hid (G26.out.trans g27)
            have T27 := Lib.hid (T26.out.gr g27)
            have U27 := Lib.hid (U26.out.gr g27)
            clear g27 x0 x1 x2 x3 x4 x5 y0 y1 y2 y3 y4 y5
            obtain ⟨x0, x1, x2, x3, x4, x5⟩ := T27.out.cells
            obtain ⟨y0, y1, y2, y3, y4, y5⟩ := U27.out.cells
            go_wp2_with fail
            go_ret
            exact ⟨rfl, G27.out⟩
          | false =>
            cases b37 with
            | true =>
              rw [show (false || (true && (false || false || ((true || b38) && d)))) = d from by cases d <;> rfl]
              go_enter Tryd.func16, Tryd.ntmps16
              go_wp2_with fail
              refine (HA.out _).mono ?_
              rintro e28 w28 ⟨rfl, g28⟩
              have G28 := Lib.hid (G0.out.trans g28)
              have T28 := Lib.hid (T0.out.gr g28)
              have U28 := Lib.hid (U0.out.gr g28)
              clear g28 x0 x1 x2 x3 x4 x5 y0 y1 y2 y3 y4 y5
              obtain ⟨x0, x1, x2, x3, x4, x5⟩ := T28.out.cells
              obtain ⟨y0, y1, y2, y3, y4, y5⟩ := U28.out.cells
              go_wp2_with fail
              refine (H36.out _).mono ?_
              rintro e29 w29 ⟨rfl, g29⟩
              have G29 := Lib.hid (G28.out.trans g29)
              have T29 := Lib.hid (T28.out.gr g29)
              have U29 := Lib.hid (U28.out.gr g29)
              clear g29 x0 x1 x2 x3 x4 x5 y0 y1 y2 y3 y4 y5
              obtain ⟨x0, x1, x2, x3, x4, x5⟩ := T29.out.cells
              obtain ⟨y0, y1, y2, y3, y4, y5⟩ := U29.out.cells
              go_wp2_with fail
              refine (H64.out _).mono ?_
              rintro e30 w30 ⟨rfl, g30⟩
              have G30 := Lib.hid (G29.out.trans g30)
              have T30 := Lib.hid (T29.out.gr g30)
              have U30 := Lib.hid (U29.out.gr g30)
              clear g30 x0 x1 x2 x3 x4 x5 y0 y1 y2 y3 y4 y5
              obtain ⟨x0, x1, x2, x3, x4, x5⟩ := T30.out.cells
              obtain ⟨y0, y1, y2, y3, y4, y5⟩ := U30.out.cells
              go_wp2_with fail
              refine (H37.out _).mono ?_
              rintro e31 w31 ⟨rfl, g31⟩
              have G31 := Lib.hid (G30.out.trans g31)
              have T31 := Lib.hid (T30.out.gr g31)
              have U31 := Lib.hid (U30.out.gr g31)
              clear g31 x0 x1 x2 x3 x4 x5 y0 y1 y2 y3 y4 y5
              obtain ⟨x0, x1, x2, x3, x4, x5⟩ := T31.out.cells
              obtain ⟨y0, y1, y2, y3, y4, y5⟩ := U31.out.cells
              go_wp2_with fail
              refine (HW.out _).mono ?_
              rintro e900 w900 ⟨rfl, g900⟩
              have G900 := Lib.hid (G31.out.trans g900)
              clear g900 x0 x1 x2 x3 x4 x5 y0 y1 y2 y3 y4 y5
              go_wp2_with fail
              refine (HPx.out _).mono ?_
              rintro e901 w901 ⟨rfl, rfl⟩
              go_wp2_with fail
              go_ret
              exact ⟨rfl, G900.out⟩
            | false =>
              cases b38 with
              | true =>
                rw [show (false || (true && (false || false || ((false || true) && d)))) = d from by cases d <;> rfl]
                go_enter Tryd.func16, Tryd.ntmps16
                go_wp2_with fail
                refine (HA.out _).mono ?_
                rintro e32 w32 ⟨rfl, g32⟩
                have G32 := Lib.hid (G0.out.trans g32)
                have T32 := Lib.hid (T0.out.gr g32)
                have U32 := Lib.hid (U0.out.gr g32)
                clear g32 x0 x1 x2 x3 x4 x5 y0 y1 y2 y3 y4 y5
                obtain ⟨x0, x1, x2, x3, x4, x5⟩ := T32.out.cells
                obtain ⟨y0, y1, y2, y3, y4, y5⟩ := U32.out.cells
                go_wp2_with fail
                refine (H36.out _).mono ?_
                rintro e33 w33 ⟨rfl, g33⟩
                have G33 := Lib.hid (G32.out.trans g33)
                have T33 := Lib.hid (T32.out.gr g33)
                have U33 := Lib.hid (U32.out.gr g33)
                clear g33 x0 x1 x2 x3 x4 x5 y0 y1 y2 y3 y4 y5
                obtain ⟨x0, x1, x2, x3, x4, x5⟩ := T33.out.cells
                obtain ⟨y0, y1, y2, y3, y4, y5⟩ := U33.out.cells
                go_wp2_with fail
                refine (H64.out _).mono ?_
                rintro e34 w34 ⟨rfl, g34⟩
                have G34 := Lib.hid (G33.out.trans g34)
                have T34 := Lib.hid (T33.out.gr g34)
                have U34 := Lib.hid (U33.out.gr g34)
                clear g34 x0 x1 x2 x3 x4 x5 y0 y1 y2 y3 y4 y5
                obtain ⟨x0, x1, x2, x3, x4, x5⟩ := T34.out.cells
                obtain ⟨y0, y1, y2, y3, y4, y5⟩ := U34.out.cells
                go_wp2_with fail
                refine (H37.out _).mono ?_
                rintro e35 w35 ⟨rfl, g35⟩
                have G35 := Lib.hid (G34.out.trans g35)
                have T35 := Lib.hid (T34.out.gr g35)
                have U35 := Lib.hid (U34.out.gr g35)
                clear g35 x0 x1 x2 x3 x4 x5 y0 y1 y2 y3 y4 y5
                obtain ⟨x0, x1, x2, x3, x4, x5⟩ := T35.out.cells
                obtain ⟨y0, y1, y2, y3, y4, y5⟩ := U35.out.cells
                go_wp2_with fail
                refine (H38.out _).mono ?_
                rintro e36 w36 ⟨rfl, g36⟩
                have G36 := Lib.hid (G35.out.trans g36)
                have T36 := Lib.hid (T35.out.gr g36)
                have U36 := Lib.hid (U35.out.gr g36)
                clear g36 x0 x1 x2 x3 x4 x5 y0 y1 y2 y3 y4 y5
                obtain ⟨x0, x1, x2, x3, x4, x5⟩ := T36.out.cells
                obtain ⟨y0, y1, y2, y3, y4, y5⟩ := U36.out.cells
                go_wp2_with fail
                refine (HW.out _).mono ?_
                rintro e900 w900 ⟨rfl, g900⟩
                have G900 := Lib.hid (G36.out.trans g900)
                clear g900 x0 x1 x2 x3 x4 x5 y0 y1 y2 y3 y4 y5
                go_wp2_with fail
                refine (HPx.out _).mono ?_
                rintro e901 w901 ⟨rfl, rfl⟩
                go_wp2_with fail
                go_ret
                exact ⟨rfl, G900.out⟩
              | false =>
                rw [show (false || (true && (false || false || ((false || false) && d)))) = false from rfl]
                go_enter Tryd.func16, Tryd.ntmps16
                go_wp2_with fail
                refine (HA.out _).mono ?_
                rintro e37 w37 ⟨rfl, g37⟩
                have G37 := Lib.hid (G0.out.trans g37)
                have T37 := Lib.hid (T0.out.gr g37)
                have U37 := Lib.hid (U0.out.gr g37)
                clear g37 x0 x1 x2 x3 x4 x5 y0 y1 y2 y3 y4 y5
                obtain ⟨x0, x1, x2, x3, x4, x5⟩ := T37.out.cells
                obtain ⟨y0, y1, y2, y3, y4, y5⟩ := U37.out.cells
                go_wp2_with fail
                refine (H36.out _).mono ?_
                rintro e38 w38 ⟨rfl, g38⟩
                have G38 := Lib.hid (G37.out.trans g38)
                have T38 := Lib.hid (T37.out.gr g38)
                have U38 := Lib.hid (U37.out.gr g38)
                clear g38 x0 x1 x2 x3 x4 x5 y0 y1 y2 y3 y4 y5
                obtain ⟨x0, x1, x2, x3, x4, x5⟩ := T38.out.cells
                obtain ⟨y0, y1, y2, y3, y4, y5⟩ := U38.out.cells
                go_wp2_with fail
                refine (H64.out _).mono ?_
                rintro e39 w39 ⟨rfl, g39⟩
                have G39 := Lib.hid (G38.out.trans g39)
                have T39 := Lib.hid (T38.out.gr g39)
                have U39 := Lib.hid (U38.out.gr g39)
                clear g39 x0 x1 x2 x3 x4 x5 y0 y1 y2 y3 y4 y5
                obtain ⟨x0, x1, x2, x3, x4, x5⟩ := T39.out.cells
                obtain ⟨y0, y1, y2, y3, y4, y5⟩ := U39.out.cells
                go_wp2_with fail
                refine (H37.out _).mono ?_
                rintro e40 w40 ⟨rfl, g40⟩
                have G40 := Lib.hid (G39.out.trans g40)
                have T40 := Lib.hid (T39.out.gr g40)
                have U40 := Lib.hid (U39.out.gr g40)
                clear g40 x0 x1 x2 x3 x4 x5 y0 y1 y2 y3 y4 y5
                obtain ⟨x0, x1, x2, x3, x4, x5⟩ := T40.out.cells
                obtain ⟨y0, y1, y2, y3, y4, y5⟩ := U40.out.cells
                go_wp2_with fail
                refine (H38.out _).mono ?_
                rintro e41 w41 ⟨rfl, g41⟩
                have G41 := Lib.hid (G40.out.trans g41)
                have T41 := Lib.hid (T40.out.gr g41)
                have U41 := Lib.hid (U40.out.gr g41)
                clear g41 x0 x1 x2 x3 x4 x5 y0 y1 y2 y3 y4 y5
                obtain ⟨x0, x1, x2, x3, x4, x5⟩ := T41.out.cells
                obtain ⟨y0, y1, y2, y3, y4, y5⟩ := U41.out.cells
                go_wp2_with fail
                go_ret
                exact ⟨rfl, G41.out⟩
end Go.Proofs.YthmopindibdhnaaDoor.G
namespace Go.Proofs.YthmopindibdhnaaDoor
open Go.RowKit Go.Shelf
variable {k l : List Tok} {n : Nat}
def sameL (k l : List Tok) : Bool := k.length == l.length && alikeN k l == k.length
theorem sameT_refl (t : Tok) : sameT t t = true := by simp [sameT]
theorem alikeN_refl : ∀ k : List Tok, alikeN k k = k.length
  | [] => rfl
  | t :: k => by rw [alikeN, if_pos (sameT_refl t), alikeN_refl k]; rfl
theorem sameL_refl (k : List Tok) : sameL k k = true := by simp [sameL, alikeN_refl]
set_option maxRecDepth 100000 in
set_option maxHeartbeats 2000000 in
theorem Same_p {a b : Value} (w : World) (hk : TksIs w a k) (hl : TksIs w b l) (hkl : k.length ≤ 9223372036854775807) : Calls Tryd.prog 8 #[a, b] w fun e w' => e = .returned (.bool (sameL k l)) ∧ Gr w w' := by
  have HA := Lib.hid (alike_p w hk hl hkl)
  obtain ⟨a1, cap1, rfl, _⟩ := hk
  obtain ⟨a2, cap2, rfl, _⟩ := hl
  by_cases he : k.length = l.length
  · have t0 : ((k.length : Int) == (l.length : Int)) = true := by rw [he]; simp
    by_cases hn : alikeN k l = k.length
    · have E : sameL k l = true := by unfold sameL; rw [hn]; simp [he]
      have t1 : ((alikeN k l : Int) == (k.length : Int)) = true := by rw [hn]; simp
      rw [E]
      generalize alikeN k l = n at *
      clear E he hn
      go_enter Tryd.func8, Tryd.ntmps8
      go_wp2_with fail
      refine HA.out.mono ?_
      rintro e w2 ⟨rfl, g⟩
      go_wp2
      go_ret
      exact ⟨rfl, g⟩
    · have E : sameL k l = false := by
        have : (alikeN k l == k.length) = false := by simpa using hn
        unfold sameL; rw [this]; simp
      have t1 : ((alikeN k l : Int) == (k.length : Int)) = false := by simp; omega
      rw [E]
      generalize alikeN k l = n at *
      clear E he hn
      go_enter Tryd.func8, Tryd.ntmps8
      go_wp2_with fail
      refine HA.out.mono ?_
      rintro e w2 ⟨rfl, g⟩
      go_wp2
      go_ret
      exact ⟨rfl, g⟩
  · have t0 : ((k.length : Int) == (l.length : Int)) = false := by simp; omega
    have E : sameL k l = false := by
      have : (k.length == l.length) = false := by simpa using he
      unfold sameL; rw [this]; simp
    rw [E]
    clear E he HA
    go_enter Tryd.func8, Tryd.ntmps8
    go_wp2
    go_ret
    exact ⟨rfl, Gr.refl w⟩
end Go.Proofs.YthmopindibdhnaaDoor
namespace Go.Proofs.YthmopindibdhnaaDoor.G.Bk
open Go.RowKit Go.Shelf
/-- the token in memory has the text that was read -/
structure Vw (t : RTok) : Prop where
  text : textP t = textV t
  repl : replP t = replV t
  low : t.kind ≤ 3 → textV t = t.raw
theorem Vw.isSg {t : RTok} (h : Vw t) (l : List UInt8) : isSgT (rend t) l = isSg t l := by
  unfold isSgT G.isSg
  show (((t.kind : Int) == 3) && (ba (textP t)).data.toList == l) = _
  rw [ba_data, h.text]
  by_cases hk : t.kind = 3
  · rw [h.low (by omega), hk]; rfl
  · have h1 : (t.kind == 3) = false := by simpa using hk
    have h2 : ((t.kind : Int) == 3) = false := by simp; omega
    rw [h1, h2]; rfl
theorem Vw.wr {t : RTok} (h : Vw t) : wrB (rend t) = wrR t := by
  unfold wrB wrR
  simp only [rend, ba_data, h.text, h.repl]
  have e4 : ((t.kind : Int) = 4) = (t.kind = 4) := propext ⟨fun h => by omega, fun h => by omega⟩
  have e5 : ((t.kind : Int) = 5) = (t.kind = 5) := propext ⟨fun h => by omega, fun h => by omega⟩
  have e6 : ((t.kind : Int) = 6) = (t.kind = 6) := propext ⟨fun h => by omega, fun h => by omega⟩
  have e7 : ((t.kind : Int) = 7) = (t.kind = 7) := propext ⟨fun h => by omega, fun h => by omega⟩
  have e8 : ((t.kind : Int) = 8) = (t.kind = 8) := propext ⟨fun h => by omega, fun h => by omega⟩
  have e9 : ((t.kind : Int) = 9) = (t.kind = 9) := propext ⟨fun h => by omega, fun h => by omega⟩
  simp only [e4, e5, e6, e7, e8, e9]
theorem Vw.after {t : RTok} (h : Vw t) (term : Bool) : afterB (rend t) term = afterR t term := by
  unfold afterB afterR
  show behindB (t.kind : Int) (ba (textP t)).data.toList (t.opn : Int) term = _
  rw [ba_data, h.text]
  by_cases hk : t.kind ≤ 3
  · rw [h.low hk]
  · unfold behindB
    have h0 : ¬ ((t.kind : Int) = 0) := by omega
    have h3 : ¬ ((t.kind : Int) = 3) := by omega
    rw [if_neg h0, if_neg h3, if_neg h0, if_neg h3]
theorem Vw.tight {t u : RTok} (h : Vw t) (hu : Vw u) (term : Bool) : tightB (rend t) (rend u) term = tightR t u term := by
  unfold tightB tightR subS sigT dolB
  rw [hu.isSg, h.isSg, h.isSg, h.isSg, h.isSg, hu.wr]
  have : ((rend u).opn == 2) = (u.opn == 2) := by
    show ((u.opn : Int) == 2) = _
    by_cases hk : u.opn = 2
    · rw [hk]; rfl
    · have h1 : (u.opn == 2) = false := by simpa using hk
      rw [h1]; simp; omega
  rw [this]
theorem join_eq : ∀ (ts : List RTok) (term : Bool), (∀ t ∈ ts, Vw t) → joinL term (ts.map rend) = joinR term ts
  | [], _, _ => rfl
  | t :: ts, term, h => by
    have ht := h t List.mem_cons_self
    have ih := join_eq ts (afterR t term) (fun u hu => h u (List.mem_cons_of_mem _ hu))
    rw [List.map_cons, joinL, joinR, ht.wr, ht.after, ih]
    congr 2
    cases ts with
    | nil => rfl
    | cons u us =>
      show (if tightB (rend t) (rend u) term = true then [] else [32]) = if tightR t u term = true then [] else [32]
      rw [ht.tight (h u (by simp))]
theorem same_sm {t u : RTok} (h : Sm t u) (ht : Vw t) (hu : Vw u) : sameT (rend t) (rend u) = true := by
  unfold sameT
  simp only [rend, ht.text, hu.text, ht.repl, hu.repl, h.kind, h.text, h.repl, h.more, h.opn]
  simp
theorem alike_sms : ∀ {k l : List RTok}, Sms k l → (∀ t ∈ k, Vw t) → (∀ t ∈ l, Vw t) → alikeN (k.map rend) (l.map rend) = k.length
  | [], [], _, _, _ => rfl
  | t :: ts, u :: us, h, hk, hl => by
    rw [List.map_cons, List.map_cons, alikeN, if_pos (same_sm h.1 (hk t (by simp)) (hl u (by simp))), alike_sms h.2 (fun x hx => hk x (by simp [hx])) (fun x hx => hl x (by simp [hx]))]
    rfl
  | [], _ :: _, h, _, _ => h.elim
  | _ :: _, [], h, _, _ => h.elim
theorem Sm.symm {t u : RTok} (h : Sm t u) : Sm u t := ⟨h.kind.symm, h.text.symm, h.repl.symm, h.more.symm, h.opn.symm, fun hk => (h.raw (by rw [h.kind]; exact hk)).symm⟩
theorem Sms.symm : ∀ {k l : List RTok}, Sms k l → Sms l k
  | [], [], h => h
  | _ :: _, _ :: _, h => ⟨h.1.symm, h.2.symm⟩
  | [], _ :: _, h => h.elim
  | _ :: _, [], h => h.elim
theorem same_sms {k l : List RTok} (h : Sms k l) (hk : ∀ t ∈ k, Vw t) (hl : ∀ t ∈ l, Vw t) : sameL (k.map rend) (l.map rend) = true := by
  unfold sameL
  rw [alike_sms h hk hl, List.length_map, List.length_map, h.len]
  simp
theorem restF_byt (l : List UInt8) : ∀ f a, l.length ≤ a + f → byt (restF l (fun _ => none) f a) = l.drop a
  | 0, a, h => by rw [restF, List.drop_eq_nil_of_le (by omega)]; rfl
  | f + 1, a, h => by
    rw [restF]
    by_cases ha : a < l.length
    · rw [List.getElem?_eq_getElem ha, List.drop_eq_getElem_cons ha]
      simp only
      rw [byt_cons]
      show l[a] :: byt (restF l (fun _ => none) f (a + 1)) = _
      rw [restF_byt l f (a + 1) (by omega)]
    · rw [List.getElem?_eq_none (by omega), List.drop_eq_nil_of_le (by omega)]; rfl
theorem src_byt (l : List UInt8) : byt (srcOf l) = l := by
  unfold srcOf rest
  rw [restF_byt l l.length 0 (by omega)]; rfl
theorem own_forN : ∀ l : List UInt8, ¬ forN l < l.length ↔ Own l
  | [] => ⟨fun _ c hc => (nomatch hc), fun _ => by simp⟩
  | c :: t => by
    have ih := own_forN t
    rw [forN]
    by_cases h : ownC c = true
    · rw [if_pos h, List.length_cons]
      constructor
      · intro hh d hd
        rw [List.mem_cons] at hd
        rcases hd with rfl | hd
        · exact h
        · exact (ih.1 (by omega)) d hd
      · intro ho
        have := ih.2 (fun d hd => ho d (List.mem_cons_of_mem _ hd))
        omega
    · rw [if_neg h]
      constructor
      · intro hh; exact absurd (Nat.zero_lt_succ t.length) hh
      · intro ho; exact absurd (ho c List.mem_cons_self) h
/-- the tokens of a run are in memory as they were read -/
theorem lexO_run {l : List UInt8} {r : List RTok × List Bool} (h : lexO false l = .ok r) : ∃ ts, r.1 = ts.reverse ∧ Run (srcOf l) true [] [] [] ts ∧ Own l ∧ ts.length ≤ 1000 := by
  unfold lexO at h
  split at h
  · exact nomatch h
  · cases e : scanS false (l.length + 1) (srcOf l) true [] [] [] with
    | none => rw [e] at h; exact nomatch h
    | some r' =>
      rw [e] at h
      unfold lexY at h
      simp only at h
      split at h
      · exact nomatch h
      · rename_i hn
        split at h
        · exact nomatch h
        · injection h with h
          subst h
          rename_i hl
          obtain ⟨ts, h1, h2⟩ := run_of_scan _ _ _ _ _ _ r'.1 r'.2 e
          rw [List.append_nil] at h2
          exact ⟨ts, h2, h1, (own_forN l).1 hn, by rw [h2, List.length_reverse] at hl; omega⟩
theorem run_vw {R : Src} {term : Bool} {rt : List RTok} {tms : List Bool} {ops : List Nat} {ts : List RTok} (h : Run R term rt tms ops ts) : Own (byt R) → ∀ t ∈ ts, Vw t := by
  induction h with
  | done h0 => exact fun _ t ht => nomatch ht
  | @step R term rt tms ops t R2 ts h0 e hr ih =>
    intro hR u hu
    have hs : Own (byt (skipS false R)) := fun c hc => hR c (skip_mem false R c hc)
    have hnx := next_nx e
    rw [List.mem_cons] at hu
    rcases hu with rfl | hu
    · obtain ⟨v1, v2, v3⟩ := nx_vw hnx hs
      have hb : textP (braceS t rt tms (nearS R) ops).1 = textP t ∧ replP (braceS t rt tms (nearS R) ops).1 = replP t := by
        unfold braceS
        split
        · exact ⟨rfl, rfl⟩
        · split
          · exact ⟨rfl, rfl⟩
          · exact ⟨rfl, rfl⟩
      obtain ⟨bw, bk, bt, brp, _⟩ := brace_raw t rt tms (nearS R) ops
      exact ⟨by rw [hb.1, bt, v1], by rw [hb.2, brp, v2], fun hk => by rw [bt, bw]; exact v3 (by rw [← bk]; exact hk)⟩
    · exact ih (nx_own hnx hs).2.1 u hu
/-- what is made of the tokens of a source is not too long, or the source itself is of some length; and its tokens are the same -/
theorem back_plain {l : List UInt8} {r : List RTok × List Bool} (h : lexO false l = .ok r) :
    (4000 < (joinL true (toksOf r.1)).length → 4000 < 3 * l.length) ∧
    ((joinL true (toksOf r.1)).length ≤ 4000 → ∃ r2, lexO false (joinL true (toksOf r.1)) = .ok r2 ∧ sameL (toksOf r.1) (toksOf r2.1) = true ∧ sameL (toksOf r2.1) (toksOf r.1) = true) := by
  obtain ⟨ts, e1, hr, ho, hl⟩ := lexO_run h
  have hoR : Own (byt (srcOf l)) := by rw [src_byt]; exact ho
  have hv := run_vw hr hoR
  have et : toksOf r.1 = ts.map rend := by unfold toksOf; rw [e1, List.map_reverse, List.reverse_reverse]
  have ej : joinL true (toksOf r.1) = joinR true ts := by rw [et, join_eq ts true hv]
  rw [ej, et]
  have hlen := run_len hr
  have hll : (srcOf l).length = l.length := by rw [← byt_len, src_byt]
  refine ⟨fun h4 => by rw [hll] at hlen; omega, fun h4 => ?_⟩
  generalize hJ : joinR true ts = J at *
  have hoJ : Own J := by rw [← hJ]; exact (run_own hr hoR).1
  obtain ⟨ts', r1, r2⟩ := run_new hr (srcOf J) [] trivial (by rw [src_byt, hJ]; rfl)
  have hlJ : (srcOf J).length = J.length := by rw [← byt_len, src_byt]
  obtain ⟨tms2, hs⟩ := scan_of_run r1 (J.length + 1) (by omega)
  have hv' := run_vw r1 (by rw [src_byt]; exact hoJ)
  refine ⟨(ts'.reverse, tms2), ?_, ?_, ?_⟩
  · unfold lexO
    rw [if_neg (by omega), hs]
    unfold lexY
    simp only
    rw [if_neg ((own_forN J).2 hoJ), List.append_nil, if_neg (by rw [List.length_reverse, ← r2.len]; omega)]
  · unfold toksOf
    simp only
    rw [List.map_reverse, List.reverse_reverse]
    exact same_sms r2 hv hv'
  · unfold toksOf
    simp only
    rw [List.map_reverse, List.reverse_reverse]
    exact same_sms r2.symm hv' hv
end Go.Proofs.YthmopindibdhnaaDoor.G.Bk
