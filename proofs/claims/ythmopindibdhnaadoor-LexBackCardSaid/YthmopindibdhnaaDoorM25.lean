/- BkH BkV LSame LSames BJW -/
import Derived.Test.YthmopindibdhnaaDoorM24
import Derived.Test.YthmopindibdhnaaDoorM23
import Derived.Lib.TrimAscii
import Derived.Test.YthmopindibdhnaaDoorM11
import Derived.StillTailTactics
import Derived.Test.YthmopindibdhnaaDoorM22
namespace Go.Proofs.YthmopindibdhnaaDoor.G.Bk
open Go.RowKit Go.Shelf
def before (rt : List RTok) (tms : List Bool) (ts : List RTok) : List UInt8 := match rt with
  | [] => []
  | x :: _ => sepR x ts (tms.headD false)
theorem behind_sm {t u : RTok} (h : Sm t u) (term : Bool) : afterR u term = afterR t term := by
  unfold afterR
  rw [← h.kind, ← h.opn]
  by_cases hk : t.kind ≤ 3
  · rw [← h.raw hk]
  · have h0 : ¬ ((t.kind : Int) = 0) := by omega
    have h3 : ¬ ((t.kind : Int) = 3) := by omega
    unfold behindB
    rw [if_neg h0, if_neg h3, if_neg h0, if_neg h3]
/-- what a brace is does not hang on what the new source's blanks are -/
theorem open_near {rt : List RTok} {tms : List Bool} {near near' : Bool} {u : RTok} {ts : List RTok} (hu : isSg u [123] = true) (hw : wrR u = [123]) (ho : u.opn = openS rt tms near) (hn : near' = (before rt tms (u :: ts)).isEmpty) : openS rt tms near' = openS rt tms near := by
  cases rt with
  | nil => rfl
  | cons x xs =>
    have hb : before (x :: xs) tms (u :: ts) = if tightR x u (tms.headD false) = true then [] else [32] := rfl
    have ht : tightR x u (tms.headD false) = ((u.opn == 2) || (tms.headD false && (isSg x [36] || isSg x [64]))) := by
      unfold tightR
      rw [hu, hw]
      show ((true && u.opn == 2) || (tms.headD false && (isSg x [36] || isSg x [64] || ((isSg x [37] || isSg x [38]) && false)))) = _
      rw [Bool.true_and, Bool.and_false, Bool.or_false]
    have hn2 : near' = ((u.opn == 2) || (tms.headD false && (isSg x [36] || isSg x [64]))) := by
      rw [hn, hb, ← ht]
      cases tightR x u (tms.headD false) <;> rfl
    clear hb ht hn
    unfold openS at ho ⊢
    simp only at ho ⊢
    generalize tms.headD false = tm at *
    generalize isSg x [36] = a36 at *
    generalize isSg x [64] = a64 at *
    generalize isSg x [37] = a37 at *
    generalize isSg x [38] = a38 at *
    generalize isSg x [45, 62] = ar at *
    generalize (x.kind == 2 || isSg x [93] || (isSg x [125] && x.opn == 2)) = C at *
    by_cases h1 : ((tm && (a36 || a64 || a37 || a38)) || ar) = true
    · rw [if_pos h1, if_pos h1]
    · rw [if_neg h1] at ho
      rw [if_neg h1, if_neg h1]
      have h2 : (tm && (a36 || a64)) = false := by
        cases tm <;> cases a36 <;> cases a64 <;> simp_all
      rw [h2, Bool.or_false] at hn2
      by_cases h3 : (near && C) = true
      · rw [if_pos h3] at ho
        rw [if_pos h3, if_pos (by rw [hn2, ho]; simp only [Bool.and_eq_true] at h3 ⊢; exact ⟨rfl, h3.2⟩)]
      · rw [if_neg h3] at ho
        rw [if_neg h3]
        have hne : u.opn ≠ 2 := by
          rw [ho]
          split
          · decide
          · split
            · decide
            · split <;> decide
        have : near' = false := by rw [hn2]; simpa using hne
        rw [this, if_neg (by simp)]
theorem skip_at {y : Nat × UInt8} {S : Src} (h : blkB y.2.toNat = false) (h2 : y.2 ≠ 35) : skipS false (y :: S) = y :: S := by
  rw [skipS, if_neg (by rw [h]; decide), if_neg h2]
theorem run_open {R : Src} {term : Bool} {rt : List RTok} {tms : List Bool} {ops : List Nat} {ts : List RTok} (h : Run R term rt tms ops ts) : ∀ u us, ts = u :: us → isSg u [123] = true → wrR u = [123] ∧ ∃ near, u.opn = openS rt tms near := by
  cases h with
  | done _ => exact fun u us e => nomatch e
  | @step _ _ _ _ _ t R2 ts' h0 e hr =>
    intro u us hu hs
    injection hu with hu _
    subst hu
    have hb := brace_raw t rt tms (nearS R) ops
    have hs' : isSg t [123] = true := by rw [← hb.2.2.2.2.2.2]; exact hs
    refine ⟨by rw [hb.2.2.2.2.2.1]; exact nx_sg (next_nx e) _ hs', nearS R, ?_⟩
    unfold braceS
    rw [if_pos hs']
theorem run_sig {R : Src} {rt : List RTok} {tms : List Bool} {ops : List Nat} {ts : List RTok} {c : UInt8} {v : List UInt8} (hc : c = 36 ∨ c = 123) (hR : byt R = c :: v) (h : Run R true rt tms ops ts) : ∃ u us w, ts = u :: us ∧ wrR u = c :: w := by
  obtain ⟨x, S, rfl, hx, _⟩ := src_cons hR
  have hsk : skipS false (x :: S) = x :: S := skip_at (by rw [hx]; rcases hc with rfl | rfl <;> decide) (by rw [hx]; rcases hc with rfl | rfl <;> decide)
  cases h with
  | done h0 => rw [hsk] at h0; exact nomatch h0
  | @step _ _ _ _ _ t R2 ts' h0 e hr =>
    rw [hsk] at e
    obtain ⟨w, hw⟩ := next_sig hc hR e
    exact ⟨_, _, w, rfl, by rw [(brace_raw t rt tms _ ops).2.2.2.2.2.1]; exact hw⟩
/-- the tokens of what is written are the tokens -/
theorem run_new {R : Src} {term : Bool} {rt : List RTok} {tms : List Bool} {ops : List Nat} {ts : List RTok} (h : Run R term rt tms ops ts) :
    ∀ (R' : Src) (rt' : List RTok), Sms rt rt' → byt R' = before rt tms ts ++ joinR term ts → ∃ ts', Run R' term rt' tms ops ts' ∧ Sms ts ts' := by
  induction h with
  | @done R term rt tms ops h0 =>
    intro R' rt' _ hR'
    have : R' = [] := by
      have e : before rt tms [] ++ joinR term [] = [] := by cases rt <;> rfl
      rw [e] at hR'
      cases R' with
      | nil => rfl
      | cons _ _ => simp at hR'
    subst this
    exact ⟨[], .done (by simp [skipS]), trivial⟩
  | @step R term rt tms ops t R2 ts h0 e hr ih =>
    intro R' rt' hrt hR'
    have hnx := next_nx e
    obtain ⟨bw, bk, bt, brp, bm, bwr, bsg⟩ := brace_raw t rt tms (nearS R) ops
    obtain ⟨c, v, hw, hc1, hc2⟩ := nx_head hnx (fun x u hx => skip_head false R x u hx)
    generalize hb : (braceS t rt tms (nearS R) ops).1 = b at *
    -- what stands behind the token
    have hstp : ∀ u us, ts = u :: us → tightR b u term = true → ∃ d w, wrR u = d :: w ∧ (d = 123 ∨ d = 36) ∧ (t.kind ≠ 0) := fun u us hu ht => by
      unfold tightR at ht
      simp only [Bool.or_eq_true, Bool.and_eq_true] at ht
      rcases ht with ⟨hs, ho⟩ | ⟨htm, ht⟩
      · obtain ⟨hw1, near, hop⟩ := run_open hr u us hu hs
        refine ⟨123, [], hw1, .inl rfl, fun hk => ?_⟩
        have hk2 : b.kind = 0 := by rw [bk]; exact hk
        have hno : ∀ l, isSg b l = false := fun l => by unfold isSg; rw [hk2]; rfl
        have : openS (b :: rt) (term :: tms) near = 1 := by
          unfold openS
          simp only [hno, hk2]
          simp
        rw [hop, this] at ho
        exact absurd ho (by decide)
      · have hk3 : b.kind = 3 := by
          have hx : ∀ l, isSg b l = true → b.kind = 3 := fun l h => by unfold isSg at h; simp only [Bool.and_eq_true, beq_iff_eq] at h; exact h.1
          rcases ht with (h | h) | ⟨h | h, _⟩
          · exact hx _ h
          · exact hx _ h
          · exact hx _ h
          · exact hx _ h
        have hkk : t.kind ≠ 0 := by rw [← bk, hk3]; decide
        rcases ht with ht | ⟨_, hd⟩
        · have hr36 : t.raw = [36] ∨ t.raw = [64] := by
            rw [bsg, bsg] at ht
            unfold isSg at ht
            simp only [Bool.and_eq_true, beq_iff_eq] at ht
            exact ht.imp And.right And.right
          obtain ⟨g1, g2, g3⟩ := nx_kind0 hnx (by rw [← bk]; exact hk3) hr36
          have hd : ∃ d w, byt R2 = d :: w ∧ (d = 36 ∨ d = 123) := by
            have e1 : (byt (skipS false R))[1]? = (byt R2)[0]? := by rw [g3, byt_drop]; simp
            rw [e1] at g2
            cases hb2 : byt R2 with
            | nil => rw [hb2] at g2; simp at g2
            | cons d w => rw [hb2] at g2; simp only [List.getElem?_cons_zero, Option.some.injEq] at g2; exact ⟨d, w, rfl, g2⟩
          obtain ⟨d, w, hd1, hd2⟩ := hd
          have haf : afterR b term = true := by
            unfold afterR behindB
            rw [hk3, bw]
            rcases hr36 with e | e <;> rw [e] <;> rfl
          rw [haf] at hr
          obtain ⟨u', us', w', q1, q2⟩ := run_sig hd2 hd1 hr
          rw [hu] at q1
          injection q1 with q1 _
          subst q1
          exact ⟨d, w', q2, hd2.symm, hkk⟩
        · rw [beq_iff_eq, List.head?_eq_some_iff] at hd
          obtain ⟨w, hw⟩ := hd
          exact ⟨36, w, hw, .inr rfl, hkk⟩
    -- what stands behind, in all
    have hKd : sepR b ts term ++ joinR (afterR b term) ts = [] ∨ (∃ w, sepR b ts term ++ joinR (afterR b term) ts = 32 :: w ∧ ∀ u us, ts = u :: us → tightR b u term = false) ∨ ∃ d w, sepR b ts term ++ joinR (afterR b term) ts = d :: w ∧ (d = 123 ∨ d = 36) ∧ t.kind ≠ 0 := by
      cases hts : ts with
      | nil => exact .inl rfl
      | cons u us =>
        by_cases ht : tightR b u term = true
        · obtain ⟨d, w, q1, q2, q3⟩ := hstp u us hts ht
          refine .inr (.inr ⟨d, w ++ (sepR u us (afterR b term) ++ joinR (afterR u (afterR b term)) us), ?_, q2, q3⟩)
          unfold sepR
          simp only
          rw [if_pos ht, joinR, q1]; rfl
        · refine .inr (.inl ⟨joinR (afterR b term) (u :: us), ?_, fun u' us' e => ?_⟩)
          · unfold sepR
            simp only
            rw [if_neg ht]; rfl
          · injection e with e1 _
            subst e1; simpa using ht
    have hK : Kok t term (sepR b ts term ++ joinR (afterR b term) ts) := by
      refine ⟨fun d hd => ?_, fun hk d hd => ?_, fun hk hr36 => ?_⟩
      · rcases hKd with h | ⟨w, h, _⟩ | ⟨d', w, h, q, _⟩ <;> rw [h] at hd
        · exact nomatch hd
        · simp only [List.getElem?_cons_zero, Option.some.injEq] at hd; exact .inl hd.symm
        · simp only [List.getElem?_cons_zero, Option.some.injEq] at hd; rw [← hd]; exact .inr q
      · rcases hKd with h | ⟨w, h, _⟩ | ⟨d', w, h, q, q2⟩ <;> rw [h] at hd
        · exact nomatch hd
        · simp only [List.getElem?_cons_zero, Option.some.injEq] at hd; exact hd.symm
        · exact absurd hk q2
      · obtain ⟨g1, g2, g3⟩ := nx_kind0 hnx hk hr36
        have e1 : (byt (skipS false R))[1]? = (byt R2)[0]? := by rw [g3, byt_drop]; simp
        rw [e1] at g2
        obtain ⟨d, w, hd1, hd2⟩ : ∃ d w, byt R2 = d :: w ∧ (d = 36 ∨ d = 123) := by
          cases hb2 : byt R2 with
          | nil => rw [hb2] at g2; simp at g2
          | cons d w => rw [hb2] at g2; simp only [List.getElem?_cons_zero, Option.some.injEq] at g2; exact ⟨d, w, rfl, g2⟩
        have hk3 : b.kind = 3 := by rw [bk]; exact hk
        have haf : afterR b term = true := by
          unfold afterR behindB
          rw [hk3, bw]
          rcases hr36 with e | e <;> rw [e] <;> rfl
        have hr2 := hr
        rw [haf] at hr2
        obtain ⟨u, us, w', q1, q2⟩ := run_sig hd2 hd1 hr2
        have htt : tightR b u term = true := by
          unfold tightR
          rw [g1, bsg, bsg]
          have : (isSg t [36] || isSg t [64]) = true := by
            unfold isSg
            rw [hk]
            rcases hr36 with e | e <;> rw [e] <;> rfl
          rw [this]; simp
        have : sepR b ts term ++ joinR (afterR b term) ts = d :: (w' ++ (sepR u us (afterR b term) ++ joinR (afterR u (afterR b term)) us)) := by
          rw [q1]; unfold sepR
          simp only
          rw [if_pos htt, joinR, q2]; rfl
        rw [this]
        simpa using hd2
    -- the new source in front of the token
    have hjoin : joinR term (b :: ts) = c :: (v ++ (sepR b ts term ++ joinR (afterR b term) ts)) := by
      rw [joinR, bwr, hw]; rfl
    have hbef : before rt tms (b :: ts) = [] ∨ before rt tms (b :: ts) = [32] := by
      unfold before
      cases rt with
      | nil => exact .inl rfl
      | cons x xs =>
        simp only
        unfold sepR
        simp only
        split
        · exact .inl rfl
        · exact .inr rfl
    have hsk : byt (skipS false R') = wrR t ++ (sepR b ts term ++ joinR (afterR b term) ts) ∧ skipS false R' ≠ [] ∧ nearS R' = (before rt tms (b :: ts)).isEmpty := by
      rcases hbef with hb0 | hb0 <;> rw [hb0, hjoin] at hR' <;> rw [hb0]
      · obtain ⟨x, S, rfl, hx, hS⟩ := src_cons hR'
        have hs : skipS false (x :: S) = x :: S := skip_at (by rw [hx]; exact hc1) (by rw [hx]; exact hc2)
        refine ⟨by rw [hs, hR', hw]; rfl, by rw [hs]; simp, by unfold nearS; rw [hs]; simp⟩
      · obtain ⟨y, S0, rfl, hy, hS0⟩ := src_cons hR'
        obtain ⟨x, S, rfl, hx, hS⟩ := src_cons hS0
        have hs : skipS false (y :: x :: S) = x :: S := by
          rw [skipS, if_pos (by rw [hy]; decide)]
          exact skip_at (by rw [hx]; exact hc1) (by rw [hx]; exact hc2)
        refine ⟨by rw [hs, byt_cons, hx, hS, hw]; rfl, by rw [hs]; simp, ?_⟩
        unfold nearS
        rw [hs]
        simp
    obtain ⟨hs1, hs2, hs3⟩ := hsk
    obtain ⟨t2, R2', n1, n2, n3⟩ := next_new hnx hK hs1
    -- the brace
    have hbr : Sm b (braceS t2 rt' tms (nearS R') ops).1 ∧ (braceS t2 rt' tms (nearS R') ops).2 = (braceS t rt tms (nearS R) ops).2 := by
      rw [← hb]
      have e1 := n3.sg [123]
      have e2 := n3.sg [125]
      by_cases h1 : isSg t [123] = true
      · have h1' : isSg t2 [123] = true := by rw [e1]; exact h1
        have hop : openS rt' tms (nearS R') = openS rt tms (nearS R) := by
          rw [openS_sm hrt, hs3]
          refine open_near (u := b) (ts := ts) (by rw [bsg]; exact h1) ?_ ?_ rfl
          · rw [bwr]; exact nx_sg hnx _ h1
          · rw [← hb]; unfold braceS; rw [if_pos h1]
        unfold braceS
        rw [if_pos h1, if_pos h1', hop]
        exact ⟨⟨n3.kind, n3.text, n3.repl, n3.more, rfl, n3.raw⟩, rfl⟩
      · have h1' : ¬ isSg t2 [123] = true := by rw [e1]; exact h1
        unfold braceS
        rw [if_neg h1, if_neg h1']
        by_cases h2 : isSg t [125] = true
        · have h2' : isSg t2 [125] = true := by rw [e2]; exact h2
          rw [if_pos h2, if_pos h2']
          exact ⟨⟨n3.kind, n3.text, n3.repl, n3.more, rfl, n3.raw⟩, rfl⟩
        · have h2' : ¬ isSg t2 [125] = true := by rw [e2]; exact h2
          rw [if_neg h2, if_neg h2']
          exact ⟨n3, rfl⟩
    obtain ⟨ts', r1, r2⟩ := ih R2' ((braceS t2 rt' tms (nearS R') ops).1 :: rt') ⟨hbr.1, hrt⟩ n2
    refine ⟨(braceS t2 rt' tms (nearS R') ops).1 :: ts', .step hs2 n1 ?_, hbr.1, r2⟩
    rw [behind_sm hbr.1, hbr.2]
    exact r1
end Go.Proofs.YthmopindibdhnaaDoor.G.Bk
namespace Go.Proofs.YthmopindibdhnaaDoor.G.Bk
open Go.RowKit Go.Shelf Go.Maps
variable {o q : UInt8}
theorem eachL_2 (g : List UInt8 → List UInt8) (f : Nat) (y : UInt8) (t : List UInt8) : eachL g (f + 1) (92 :: y :: t) = g [92, y] ++ eachL g f t := by
  rw [eachL_two (by simp) rfl]; rfl
theorem eachL_1 (g : List UInt8 → List UInt8) (f : Nat) (x : UInt8) (t : List UInt8) (h : x ≠ 92 ∨ t = []) : eachL g (f + 1) (x :: t) = g [x] ++ eachL g f t := by
  rw [eachL_one (by simp)]
  · rfl
  · rintro ⟨h1, h2⟩
    rcases h with h | h
    · exact h h1
    · subst h; simp at h2
theorem plR_ne {x : UInt8} (h : x ≠ 92) (t : List UInt8) : plR o q (x :: t) = x :: plR o q t := by
  cases t with
  | nil => rfl
  | cons y t => rw [plR, if_neg (fun e => h e.1)]
theorem plG_1 (o x : UInt8) : plG o [x] = [x] := by unfold plG; rw [if_neg (fun h => absurd h.1 (by simp))]
theorem plG_2 (o y : UInt8) : plG o [92, y] = if (y == 92 || delsB y o) = true then [y] else [92, y] := by
  unfold plG
  rw [secB_at (by simp)]
  by_cases h : (y == 92 || delsB y o) = true
  · rw [if_pos ⟨rfl, h⟩, if_pos h]; rfl
  · rw [if_neg (fun e => h e.2), if_neg h]
theorem pl_go (o : UInt8) : ∀ (f : Nat) (l : List UInt8), l.length ≤ f → eachL (plG o) f l = plR o (partU o) l
  | f, [], _ => eachL_nil _ _
  | 0, x :: t, h => absurd h (by simp)
  | f + 1, [x], _ => by rw [eachL_1 _ _ _ _ (.inr rfl), eachL_nil, plG_1]; rfl
  | f + 1, x :: y :: t, h => by
    by_cases hx : x = 92
    · subst hx
      have h1 := pl_go o f t (by simp at h; omega)
      rw [eachL_2, plG_2, h1, plR]
      by_cases hy : (y == 92 || delsB y o) = true
      · have hy2 : y = 92 ∨ y = o ∨ y = partU o := by simpa [delsB] using hy
        rw [if_pos hy, if_pos ⟨rfl, hy2⟩]; rfl
      · have hy2 : ¬ (y = 92 ∨ y = o ∨ y = partU o) := by simpa [delsB] using hy
        rw [if_neg hy, if_neg (fun e => hy2 e.2), plR_ne (fun e => hy2 (.inl e))]; rfl
    · have h1 := pl_go o f (y :: t) (by simp at h ⊢; omega)
      rw [eachL_1 _ _ _ _ (.inl hx), h1, plG_1, plR, if_neg (fun e => hx e.1)]; rfl
/-- a text without interpolation -/
theorem pl_eq (o : UInt8) (l : List UInt8) : plL o l = plR o (partU o) l := pl_go o _ l (Nat.le_refl _)
theorem wsG_1 (x : UInt8) : wsG [x] = [x] := by unfold wsG; rw [if_neg (by simp)]
theorem ws_go : ∀ (f : Nat) (l : List UInt8), l.length ≤ f → eachL wsG f l = patR l
  | f, [], _ => eachL_nil _ _
  | 0, x :: t, h => absurd h (by simp)
  | f + 1, [x], _ => by rw [eachL_1 _ _ _ _ (.inr rfl), eachL_nil, wsG_1]; rfl
  | f + 1, x :: y :: t, h => by
    by_cases hx : x = 92
    · subst hx
      have h1 := ws_go f t (by simp at h; omega)
      rw [eachL_2, h1, patR, if_pos rfl]
      unfold wsG
      by_cases hy : y = 47
      · subst hy; rfl
      · rw [if_neg (by simp [hy]), if_neg hy]; rfl
    · have h1 := ws_go f (y :: t) (by simp at h ⊢; omega)
      rw [eachL_1 _ _ _ _ (.inl hx), h1, wsG_1, patR, if_neg hx]; rfl
/-- the text of a pattern -/
theorem ws_eq (l : List UInt8) : wsL l = patR l := ws_go _ l (Nat.le_refl _)
theorem inG_1 (o x : UInt8) : inG o [x] = if x = 34 then [92, 34] else [x] := by
  unfold inG
  by_cases h : x = 34
  · subst h; rfl
  · rw [if_neg (by simpa using h), if_neg h, if_neg (fun e => absurd e.1 (by simp))]
theorem inG_2 (o y : UInt8) : inG o [92, y] = if (y != 34 && delsB y o) = true then [y] else [92, y] := by
  unfold inG
  rw [if_neg (by simp), secB_at (by simp)]
  by_cases h : (y != 34 && delsB y o) = true
  · rw [if_pos ⟨rfl, h⟩, if_pos h]; rfl
  · rw [if_neg (fun e => h e.2), if_neg h]
theorem in_go (o o' q : UInt8) (hg : ∀ y, (y != 34 && delsB y o) = goesB o' q false y) : ∀ (f : Nat) (l : List UInt8), l.length ≤ f → eachL (inG o) f l = inR o' q false l
  | f, [], _ => eachL_nil _ _
  | 0, x :: t, h => absurd h (by simp)
  | f + 1, [x], _ => by rw [eachL_1 _ _ _ _ (.inr rfl), eachL_nil, inG_1, inR_1, List.append_nil]
  | f + 1, x :: y :: t, h => by
    by_cases hx : x = 92
    · subst hx
      have h1 := in_go o o' q hg f t (by simp at h; omega)
      rw [eachL_2, inG_2, h1, inR, if_pos rfl, hg]
      by_cases hy : goesB o' q false y = true
      · rw [if_pos hy, if_pos hy]; rfl
      · rw [if_neg hy, if_neg hy]; rfl
    · have h1 := in_go o o' q hg f (y :: t) (by simp at h ⊢; omega)
      rw [eachL_1 _ _ _ _ (.inl hx), h1, inG_1, inR, if_neg hx]
      by_cases h34 : x = 34
      · rw [if_pos h34, if_pos h34]; rfl
      · rw [if_neg h34, if_neg h34]; rfl
/-- a text with interpolation -/
theorem in_eq (o : UInt8) (h1 : o ≠ 92) (h2 : partU o ≠ 92) (l : List UInt8) : inL o l = inR o (partU o) false l := by
  refine in_go o o (partU o) (fun y => ?_) _ l (Nat.le_refl _)
  unfold goesB delsB
  by_cases hy : y = 92
  · subst hy
    have e1 : ((92 : UInt8) == o) = false := by simpa using Ne.symm h1
    have e2 : ((92 : UInt8) == partU o) = false := by simpa using Ne.symm h2
    rw [e1, e2]; rfl
  · have e3 : (y == 92) = false := by simpa using hy
    rw [e3]
    cases h : (y == o || y == partU o) <;> cases h' : (y == 34) <;> simp [bne, h']
theorem patR_ne {x : UInt8} (h : x ≠ 92) (t : List UInt8) : patR (x :: t) = x :: patR t := by
  cases t with
  | nil => rfl
  | cons y t => rw [patR, if_neg h]
theorem patR_esc (y : UInt8) (t : List UInt8) : patR (92 :: y :: t) = if y = 47 then y :: patR t else 92 :: y :: patR t := by rw [patR, if_pos rfl]
theorem sub_go (o q : UInt8) : ∀ (l : List UInt8), patR (inR o q false l) = inR o q true l
  | [] => rfl
  | [x] => by
    rw [inR_1, inR_1]
    by_cases h : x = 34
    · rw [if_pos h]; rfl
    · rw [if_neg h]; rfl
  | x :: y :: t => by
    have h1 := sub_go o q t
    have h2 := sub_go o q (y :: t)
    rw [inR, inR]
    by_cases hx : x = 92
    · rw [if_pos hx, if_pos hx]
      cases hg : goesB o q false y with
      | true =>
        have hy : y ≠ 92 := fun e => by subst e; unfold goesB at hg; simp at hg
        have hg2 : goesB o q true y = true := by
          unfold goesB at hg ⊢
          simp only [Bool.false_and, Bool.or_false] at hg
          rw [hg]; rfl
        rw [if_pos rfl, if_pos hg2, patR_ne hy, h1]
      | false =>
        have hg2 : goesB o q true y = (y == 47) := by
          unfold goesB at hg ⊢
          simp only [Bool.false_and, Bool.or_false] at hg
          rw [hg]; simp
        rw [if_neg (show ¬ false = true from by decide), patR_esc, h1, hg2]
        by_cases hy : y = 47
        · rw [if_pos hy, if_pos (by simpa using hy)]
        · rw [if_neg hy, if_neg (by simpa using hy)]
    · rw [if_neg hx, if_neg hx]
      by_cases h34 : x = 34
      · rw [if_pos h34, if_pos h34, patR_esc, if_neg (by decide), h2]
      · rw [if_neg h34, if_neg h34, patR_ne hx, h2]
/-- the second part of a replacement -/
theorem sub_eq (o : UInt8) (h1 : o ≠ 92) (h2 : partU o ≠ 92) (l : List UInt8) : wsL (inL o l) = inR o (partU o) true l := by
  rw [ws_eq, in_eq o h1 h2, sub_go]
theorem dec_ascii (c : UInt8) (t : List UInt8) (h : c.toNat < 128) : Lib.decodeL (c :: t) = (c.toNat, 1) := Lib.decodeL_ascii c t h
theorem own_space : ∀ c : UInt8, ownC c = true → c.toNat < 128 ∧ Lib.isSpaceR c.toNat = blkB (c.toNat : Int) := by
  have H : ∀ n : Fin 256, ownC (UInt8.ofNat n.val) = true → (UInt8.ofNat n.val).toNat < 128 ∧ Lib.isSpaceR (UInt8.ofNat n.val).toNat = blkB ((UInt8.ofNat n.val).toNat : Int) := by
    decide +kernel
  intro o
  have := H ⟨o.toNat, o.toNat_lt⟩
  simpa using this
def oneF (cur : List UInt8) : List (List UInt8) := if cur = [] then [] else [cur]
theorem fields_nil (f : Nat) (cur : List UInt8) : Lib.fieldsGoD f cur [] = oneF cur := by
  cases f <;> rfl
theorem fields_blk {f : Nat} {cur t : List UInt8} {c : UInt8} (ho : ownC c = true) (hb : blkB (c.toNat : Int) = true) : Lib.fieldsGoD (f + 1) cur (c :: t) = oneF cur ++ Lib.fieldsGoD f [] t := by
  obtain ⟨h1, h2⟩ := own_space c ho
  rw [Lib.fieldsGoD, if_neg (by simp), dec_ascii c t h1, if_pos (by rw [h2]; exact hb)]
  rfl
theorem fields_on {f : Nat} {cur t : List UInt8} {c : UInt8} (ho : ownC c = true) (hb : blkB (c.toNat : Int) = false) : Lib.fieldsGoD (f + 1) cur (c :: t) = Lib.fieldsGoD f (cur ++ [c]) t := by
  obtain ⟨h1, h2⟩ := own_space c ho
  rw [Lib.fieldsGoD, if_neg (by simp), dec_ascii c t h1, if_neg (by rw [h2, hb]; decide)]
  rfl
theorem fields_ne : ∀ (f : Nat) (cur l : List UInt8), cur ≠ [] → Lib.fieldsGoD f cur l ≠ []
  | 0, cur, l, h => by rw [Lib.fieldsGoD, if_neg h]; simp
  | f + 1, cur, l, h => by
    rw [Lib.fieldsGoD, if_neg h]
    split
    · simp
    · split
      · simp
      · exact fields_ne f _ _ (by simp [h])
theorem tail_join {xs : List (List UInt8)} (h : xs ≠ []) : Lib.joinTail [32] xs = 32 :: Lib.join xs [32] := by
  cases xs with
  | nil => exact absurd rfl h
  | cons x r => rw [Lib.join_cons]; simp [Lib.joinTail]
mutual
theorem wo_in : ∀ (l : List UInt8) (f : Nat) (p cur : List UInt8), (∀ c ∈ l, ownC c = true) → l.length ≤ f → cur ≠ [] → woR (p ++ cur) false l = p ++ Lib.join (Lib.fieldsGoD f cur l) [32]
  | [], f, p, cur, _, _, h => by rw [fields_nil, oneF, if_neg h, Lib.join_one]; rfl
  | c :: t, 0, _, _, _, hl, _ => absurd hl (by simp)
  | c :: t, f + 1, p, cur, ho, hl, h => by
    have hc := ho c (by simp)
    have ht : ∀ d ∈ t, ownC d = true := fun d hd => ho d (by simp [hd])
    cases hb : blkB (c.toNat : Int) with
    | true =>
      rw [woR, if_pos hb, fields_blk hc hb, oneF, if_neg h, List.singleton_append, Lib.join_cons, wo_mid t f (p ++ cur) ht (by simp at hl; omega) (by simp [h]), List.append_assoc]
    | false =>
      rw [woR, if_neg (by rw [hb]; decide), if_neg (fun e => absurd e.2 (by decide)), List.append_assoc, wo_in t f p (cur ++ [c]) ht (by simp at hl; omega) (by simp), fields_on hc hb]
theorem wo_mid : ∀ (l : List UInt8) (f : Nat) (x : List UInt8), (∀ c ∈ l, ownC c = true) → l.length ≤ f → x ≠ [] → woR x true l = x ++ Lib.joinTail [32] (Lib.fieldsGoD f [] l)
  | [], f, x, _, _, _ => by rw [fields_nil]; simp [woR, oneF, Lib.joinTail]
  | c :: t, 0, _, _, hl, _ => absurd hl (by simp)
  | c :: t, f + 1, x, ho, hl, h => by
    have hc := ho c (by simp)
    have ht : ∀ d ∈ t, ownC d = true := fun d hd => ho d (by simp [hd])
    cases hb : blkB (c.toNat : Int) with
    | true =>
      rw [woR, if_pos hb, fields_blk hc hb, oneF, if_pos rfl, List.nil_append, wo_mid t f x ht (by simp at hl; omega) h]
    | false =>
      rw [woR, if_neg (by rw [hb]; decide), if_pos ⟨h, rfl⟩, wo_in t f (x ++ [32]) [c] ht (by simp at hl; omega) (by simp), fields_on hc hb, List.nil_append, tail_join (fields_ne f [c] t (by simp))]
      simp
end
theorem wo_start : ∀ (l : List UInt8) (f : Nat) (pb : Bool), (∀ c ∈ l, ownC c = true) → l.length ≤ f → woR [] pb l = Lib.join (Lib.fieldsGoD f [] l) [32]
  | [], f, pb, _, _ => by rw [fields_nil]; rfl
  | c :: t, 0, _, _, hl => absurd hl (by simp)
  | c :: t, f + 1, pb, ho, hl => by
    have hc := ho c (by simp)
    have ht : ∀ d ∈ t, ownC d = true := fun d hd => ho d (by simp [hd])
    cases hb : blkB (c.toNat : Int) with
    | true => rw [woR, if_pos hb, fields_blk hc hb, oneF, if_pos rfl, List.nil_append, wo_start t f true ht (by simp at hl; omega)]
    | false =>
      have := wo_in t f [] [c] ht (by simp at hl; omega) (by simp)
      rw [woR, if_neg (by rw [hb]; decide), if_neg (fun e => e.1 rfl), fields_on hc hb, List.nil_append, ← List.nil_append [c], this]
      rfl
/-- words -/
theorem words_eq (l : List UInt8) (h : ∀ c ∈ l, ownC c = true) : wordsP l = wordsR l := (wo_start l _ false h (Nat.le_succ _)).symm

section
variable {R R2 : Src} {term : Bool} {t : RTok}
/-- a token that was read has its text in memory -/
theorem nx_vw (h : Nx R term t R2) (hR : ∀ c ∈ byt R, ownC c = true) : textP t = textV t ∧ replP t = replV t ∧ (t.kind ≤ 3 → textV t = t.raw) := by
  cases h with
  | word n h1 h2 h3 => exact ⟨rfl, rfl, fun _ => rfl⟩
  | num x u h1 h2 => exact ⟨rfl, rfl, fun _ => rfl⟩
  | sign n h1 h2 h3 => exact ⟨rfl, rfl, fun _ => rfl⟩
  | var n h1 h2 => exact ⟨rfl, rfl, fun _ => rfl⟩
  | str pl f raw o _ h0 h1 h2 =>
    rcases h1 with rfl | rfl
    · exact ⟨rfl, rfl, fun h => absurd h (show ¬ (4 : Nat) ≤ 3 by decide)⟩
    · exact ⟨pl_eq o raw, rfl, fun h => absurd h (show ¬ (4 : Nat) ≤ 3 by decide)⟩
  | inter pl f raw o _ h0 h1 hd h2 =>
    rcases h1 with rfl | rfl
    · have := partU_ne (hd rfl)
      exact ⟨in_eq o this.1 this.2 raw, rfl, fun h => absurd h (show ¬ (5 : Nat) ≤ 3 by decide)⟩
    · refine ⟨?_, rfl, fun h => absurd h (show ¬ (5 : Nat) ≤ 3 by decide)⟩
      have := in_eq 34 (by decide) (by decide) raw
      rw [show partU 34 = 34 from by decide] at this
      exact this
  | words pl raw o _ h0 h1 h2 h3 =>
    refine ⟨?_, rfl, fun h => absurd h (show ¬ (6 : Nat) ≤ 3 by decide)⟩
    show wordsP (plL o raw) = wordsR (plR o (partU o) raw)
    rw [pl_eq]
    exact words_eq _ (fun c hc => hR c (h2 c (plR_mem _ c hc)))
  | pat pl raw o R1 h0 h1 h2 => exact ⟨ws_eq raw, rfl, fun h => absurd h (show ¬ (7 : Nat) ≤ 3 by decide)⟩
  | subst pl raw raw2 o o2 R1 h0 hd h1 =>
    have := partU_ne hd
    exact ⟨ws_eq raw, sub_eq o2 this.1 this.2 raw2, fun h => absurd h (show ¬ (8 : Nat) ≤ 3 by decide)⟩
  | trans pl raw raw2 o o2 R1 h0 h1 => exact ⟨pl_eq o raw, pl_eq o2 raw2, fun h => absurd h (show ¬ (9 : Nat) ≤ 3 by decide)⟩
end
end Go.Proofs.YthmopindibdhnaaDoor.G.Bk
namespace Go.Proofs.YthmopindibdhnaaDoor
open Go.RowKit Go.Shelf
def sameT (t u : Tok) : Bool := t.kind == u.kind && (t.text.toList == u.text.toList && (t.repl.toList == u.repl.toList && (t.more.toList == u.more.toList && t.opn == u.opn)))
set_option maxRecDepth 100000 in
theorem tokSame_p (t u : Tok) (w : World) : Calls Tryd.prog 20 #[t.val, u.val] w fun e w' => e = .returned (.bool (sameT t u)) ∧ Gr w w' := by
  obtain ⟨k1, p1, s1, r1, m1, o1⟩ := t
  obtain ⟨k2, p2, s2, r2, m2, o2⟩ := u
  rw [show Tok.val ⟨k1, p1, s1, r1, m1, o1⟩ = .agg #[.int .i64 k1, .int .i64 p1, .string s1, .string r1, .string m1, .int .i64 o1] from rfl, show Tok.val ⟨k2, p2, s2, r2, m2, o2⟩ = .agg #[.int .i64 k2, .int .i64 p2, .string s2, .string r2, .string m2, .int .i64 o2] from rfl]
  go_enter Tryd.func20, Tryd.ntmps20
  go_wp2_with fail
  all_goals
    go_ret
    refine ⟨?_, ?_⟩
  all_goals first | exact ((Gr.refl w).alloc _).alloc _ | (simp [sameT]; simp_all)
end Go.Proofs.YthmopindibdhnaaDoor
namespace Go.Proofs.YthmopindibdhnaaDoor
open Go.RowKit Go.Shelf
/-- the value v has the tokens l, wherever they lie -/
def TksIs (w : World) (v : Value) (l : List Tok) : Prop := ∃ ao cap, v = .slice ao l.length cap ∧ ∀ k (h : k < l.length), ∃ b o, ao = some ⟨b, o, none⟩ ∧ b < w.heap.size ∧
  w.cell? ⟨b, o + k * 6, none⟩ = some (.int .i64 l[k].kind) ∧ w.cell? ⟨b, o + k * 6 + 1, none⟩ = some (.int .i64 l[k].place) ∧ w.cell? ⟨b, o + k * 6 + 2, none⟩ = some (.string l[k].text) ∧
  w.cell? ⟨b, o + k * 6 + 3, none⟩ = some (.string l[k].repl) ∧ w.cell? ⟨b, o + k * 6 + 4, none⟩ = some (.string l[k].more) ∧ w.cell? ⟨b, o + k * 6 + 5, none⟩ = some (.int .i64 l[k].opn)
theorem TksIs.gr {w w' : World} {v : Value} {l : List Tok} (h : TksIs w v l) (hg : Gr w w') : TksIs w' v l := by
  obtain ⟨ao, cap, rfl, h⟩ := h
  refine ⟨ao, cap, rfl, fun k hk => ?_⟩
  obtain ⟨b, o, rfl, hb, c⟩ := h k hk
  refine ⟨b, o, rfl, Nat.lt_of_lt_of_le hb hg.size, ?_⟩
  simp only [cell_gr hg hb]
  exact c
/-- how many tokens at the begin are the same -/
def alikeN : List Tok → List Tok → Nat
  | t :: k, u :: l => if sameT t u = true then alikeN k l + 1 else 0
  | _, _ => 0
variable {k l : List Tok} {n : Nat}
theorem alikeN_on (h1 : n < k.length) (h2 : n < l.length) (hs : sameT k[n] l[n] = true) : alikeN (k.drop n) (l.drop n) = alikeN (k.drop (n + 1)) (l.drop (n + 1)) + 1 := by
  rw [List.drop_eq_getElem_cons h1, List.drop_eq_getElem_cons h2, alikeN, if_pos hs]
theorem alikeN_off (h1 : n < k.length) (h2 : n < l.length) (hs : sameT k[n] l[n] = false) : alikeN (k.drop n) (l.drop n) = 0 := by
  rw [List.drop_eq_getElem_cons h1, List.drop_eq_getElem_cons h2, alikeN, if_neg (by rw [hs]; decide)]
theorem alikeN_end1 (h1 : ¬ n < k.length) : alikeN (k.drop n) (l.drop n) = 0 := by
  rw [List.drop_eq_nil_of_le (by omega), alikeN]
  simp
theorem alikeN_end2 (h1 : ¬ n < l.length) : alikeN (k.drop n) (l.drop n) = 0 := by
  rw [List.drop_eq_nil_of_le (by omega : l.length ≤ n)]
  cases k.drop n <;> rfl
set_option maxRecDepth 100000 in
set_option maxHeartbeats 2000000 in
theorem alike_p {a b : Value} (w : World) (hk : TksIs w a k) (hl : TksIs w b l) (hkl : k.length ≤ 9223372036854775807) : Calls Tryd.prog 11 #[a, b] w fun e w' => e = .returned (.int .i64 (alikeN k l)) ∧ Gr w w' := by
  have HK := Lib.hid hk
  have HL := Lib.hid hl
  obtain ⟨a1, cap1, rfl, hc1⟩ := hk
  obtain ⟨a2, cap2, rfl, hc2⟩ := hl
  have Hc1 := Lib.hid hc1
  have Hc2 := Lib.hid hc2
  have Hkl := Lib.hid hkl
  clear hc1 hc2 hkl
  have HR : Hid (alikeN k l = 0 + alikeN (k.drop 0) (l.drop 0)) := Lib.hid (by simp)
  generalize alikeN k l = R at *
  have HS := Lib.hid (fun t u w => tokSame_p t u w)
  go_enter Tryd.func11, Tryd.ntmps11
  go_wp2_with fail
  go_loopw [5] (fun nv wr => ∃ n : Nat, nv = .int .i64 (n : Int) ∧ n ≤ k.length ∧ Gr w wr ∧ Hid (R = n + alikeN (k.drop n) (l.drop n))) (fun nv _ => leftTo k.length nv)
  case atStart => exact ⟨0, rfl, Nat.zero_le _, Gr.refl w, HR⟩
  case round =>
    obtain ⟨n, rfl, hn, hg, hR⟩ := hrel
    have Hg := Lib.hid hg
    clear hg HR
    by_cases h1 : n < k.length
    · by_cases h2 : n < l.length
      · obtain ⟨b1, o1, rfl, hb1, x0, x1, x2, x3, x4, x5⟩ := Hc1.out n h1
        obtain ⟨b2, o2, rfl, hb2, y0, y1, y2, y3, y4, y5⟩ := Hc2.out n h2
        rw [← cell_gr Hg.out hb1] at x0 x1 x2 x3 x4 x5
        rw [← cell_gr Hg.out hb2] at y0 y1 y2 y3 y4 y5
        have i1 : (n : Int) < (k.length : Int) := by omega
        have i2 : (n : Int) < (l.length : Int) := by omega
        have hS := Lib.hid (fun w => HS.out k[n] l[n] w)
        have Hon := Lib.hid (fun hs => alikeN_on h1 h2 hs)
        have Hoff := Lib.hid (fun hs => alikeN_off h1 h2 hs)
        rw [show Tok.val k[n] = .agg #[.int .i64 k[n].kind, .int .i64 k[n].place, .string k[n].text, .string k[n].repl, .string k[n].more, .int .i64 k[n].opn] from rfl, show Tok.val l[n] = .agg #[.int .i64 l[n].kind, .int .i64 l[n].place, .string l[n].text, .string l[n].repl, .string l[n].more, .int .i64 l[n].opn] from rfl] at hS
        have Hn1 : Hid (n < k.length ∧ n ≤ 9223372036854775807) := Lib.hid (by have := Hkl.out; omega)
        have b1' : (n : Int) + 1 ≤ 9223372036854775807 := by have := Hkl.out; omega
        have b2' : -9223372036854775808 ≤ (n : Int) + 1 := by omega
        generalize sameT k[n] l[n] = same at *
        generalize k[n] = t at *
        generalize l[n] = u at *
        clear HS Hc1 Hc2 HK HL h1 h2 hn hb1 hb2
        cases same
        · have E : Hid (R = n) := Lib.hid (by rw [hR.out, Hoff.out rfl]; omega)
          clear Hon Hoff hR
          go_wp2_with fail
          go_still_tail 19, (by kernel_rfl)
          change wpList _ _ _ _ _ wr.drew
          generalize hW2 : wr.drew = w2
          have G2 := Lib.hid (by rw [← hW2]; exact Hg.out.drew : Gr w w2)
          clear hW2 x0 x1 x2 x3 x4 x5 y0 y1 y2 y3 y4 y5
          go_wp2_with fail
          refine (hS.out _).mono ?_
          rintro e9 w9 ⟨rfl, g9⟩
          have G9 := Lib.hid (G2.out.trans g9)
          clear g9
          go_wp2_with fail
          go_ret
          rw [E.out]
          exact ⟨rfl, G9.out⟩
        · have HE := Lib.hid (Hon.out rfl)
          clear Hon Hoff
          go_wp2_with fail
          go_still_tail 19, (by kernel_rfl)
          change wpList _ _ _ _ _ wr.drew
          generalize hW2 : wr.drew = w2
          have G2 := Lib.hid (by rw [← hW2]; exact Hg.out.drew : Gr w w2)
          clear hW2 x0 x1 x2 x3 x4 x5 y0 y1 y2 y3 y4 y5
          go_wp2_with fail
          refine (hS.out _).mono ?_
          rintro e9 w9 ⟨rfl, g9⟩
          have G9 := Lib.hid (G2.out.trans g9)
          clear g9
          go_wp2_with fail
          go_roundw
          case rel => have := Hn1.out; exact ⟨n + 1, rfl, by omega, G9.out, Lib.hid (by rw [hR.out, HE.out]; omega)⟩
          case measure => have := Hn1.out; simp only [leftTo]; omega
      · have i1 : (n : Int) < (k.length : Int) := by omega
        have i2 : decide ((n : Int) < (l.length : Int)) = false := by simp; omega
        have i3 : decide (n < l.length) = false := by simpa using h2
        have E : Hid (R = n) := Lib.hid (by rw [hR.out, alikeN_end2 h2]; omega)
        clear hR HS Hc1 Hc2 HK HL h1 h2 hn
        go_wp2_with fail
        go_quiet (fail)
        go_wp2_with fail
        go_ret
        rw [E.out]
        exact ⟨rfl, Hg.out.drewN _⟩
    · have i1 : decide ((n : Int) < (k.length : Int)) = false := by simp; omega
      have i3 : decide (n < k.length) = false := by simpa using h1
      have E : Hid (R = n) := Lib.hid (by rw [hR.out, alikeN_end1 h1]; omega)
      clear hR HS Hc1 Hc2 HK HL h1 hn
      go_wp2_with fail
      go_quiet (fail)
      go_wp2_with fail
      go_ret
      rw [E.out]
      exact ⟨rfl, Hg.out.drewN _⟩
end Go.Proofs.YthmopindibdhnaaDoor
namespace Go.Proofs.YthmopindibdhnaaDoor.G
open Go.RowKit Go.Shelf Go.Maps
/-- how a token is written -/
def wrB (t : Tok) : List UInt8 :=
  if t.kind = 4 then [39] ++ escG [39, 92] t.text.data.toList ++ [39]
  else if t.kind = 5 then [34] ++ t.text.data.toList ++ [34]
  else if t.kind = 6 then [113, 119, 40] ++ escG [40, 41, 92] t.text.data.toList ++ [41]
  else if t.kind = 7 then [109, 47] ++ escG [47] t.text.data.toList ++ [47] ++ t.more.data.toList
  else if t.kind = 8 then [115, 47] ++ escG [47] t.text.data.toList ++ [47] ++ escG [47] t.repl.data.toList ++ [47] ++ t.more.data.toList
  else if t.kind = 9 then [116, 114, 47] ++ escG [47, 92] t.text.data.toList ++ [47] ++ escG [47, 92] t.repl.data.toList ++ [47] ++ t.more.data.toList
  else t.text.data.toList
/-- how many bytes a token takes at most -/
def wgt (t : Tok) : Nat := 2 * (t.text.size + t.repl.size + t.more.size) + 6
theorem wrB_len (t : Tok) : (wrB t).length ≤ wgt t := by
  have h1 := escG_len [39, 92] t.text.data.toList
  have h2 := escG_len [40, 41, 92] t.text.data.toList
  have h3 := escG_len [47] t.text.data.toList
  have h4 := escG_len [47, 92] t.text.data.toList
  have h5 := escG_len [47] t.repl.data.toList
  have h6 := escG_len [47, 92] t.repl.data.toList
  have e1 := sizeL t.text
  have e2 := sizeL t.repl
  have e3 := sizeL t.more
  unfold wrB wgt
  repeat' split
  all_goals
    first | omega | (simp only [List.length_append, List.length_cons, List.length_nil]; omega)
theorem ba_is {a : ByteArray} {l : List UInt8} (h : a.data.toList = l) : a = ba l := baE (by rw [h, ba_data])
/-- a text with a sign before some of its bytes -/
def escB (z : List UInt8) (s : ByteArray) : ByteArray := ba (escG z s.data.toList)
theorem escB_data (z : List UInt8) (s : ByteArray) : (escB z s).data.toList = escG z s.data.toList := ba_data _
theorem ba_len (l : List UInt8) : (ba l).size = l.length := by rw [← sizeL, ba_data]
theorem escB_len (z : List UInt8) {s : ByteArray} (hs : s.size ≤ 1000000) : (escB z s).size ≤ 2000000 := by
  unfold escB
  rw [ba_len]
  have := escG_len z s.data.toList
  rw [sizeL] at this
  omega
set_option maxRecDepth 100000 in
set_option maxHeartbeats 2000000 in
theorem quoted_g (s : ByteArray) (hs : s.size ≤ 1000000) (w : World) : Calls Tryd.prog 25 #[.string s] w fun e w' => e = .returned (.string (ba ([39] ++ escG [39, 92] s.data.toList ++ [39]))) ∧ Gr w w' := by
  have HE := Lib.hid (fun w => escG_p ⟨#[39, 92]⟩ s hs w)
  rw [show (⟨#[39, 92]⟩ : ByteArray).data.toList = [39, 92] from rfl] at HE
  obtain ⟨E, hE⟩ : ∃ E, E = ba (escG [39, 92] s.data.toList) := ⟨_, rfl⟩
  have hz : E.size ≤ 2000000 := by rw [hE, ba_len]; have := escG_len [39, 92] s.data.toList; rw [sizeL] at this; omega
  have HV : Hid ((⟨#[39]⟩ ++ E ++ ⟨#[39]⟩ : ByteArray) = ba ([39] ++ escG [39, 92] s.data.toList ++ [39])) := Lib.hid (ba_is (by rw [app_data, app_data, hE, ba_data]))
  rw [← HV.out]
  rw [← hE] at HE
  clear hE HV
  go_enter Tryd.func25, Tryd.ntmps25
  go_wp2_with fail
  refine (HE.out _).mono ?_
  rintro e w1 ⟨rfl, g⟩
  have G1 := Lib.hid g
  clear g
  go_wp2_with fail
  go_ret
  exact ⟨rfl, G1.out⟩
end Go.Proofs.YthmopindibdhnaaDoor.G
