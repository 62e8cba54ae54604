/- LSame LSames -/
import Derived.Test.YthmopindibdhnaaGreatDoorM10
import Derived.StillTailTactics
namespace Go.Proofs.YthmopindibdhnaaGreatDoor
open Go.RowKit Go.Shelf
def sameT (t u : Tok) : Bool := t.kind == u.kind && (t.text.toList == u.text.toList && (t.repl.toList == u.repl.toList && (t.more.toList == u.more.toList && t.opn == u.opn)))
set_option maxRecDepth 100000 in
theorem tokSame_p (t u : Tok) (w : World) : Calls Tryz.prog 50 #[t.val, u.val] w fun e w' => e = .returned (.bool (sameT t u)) ∧ Gr w w' := by
  obtain ⟨k1, p1, s1, r1, m1, o1⟩ := t
  obtain ⟨k2, p2, s2, r2, m2, o2⟩ := u
  rw [show Tok.val ⟨k1, p1, s1, r1, m1, o1⟩ = .agg #[.int .i64 k1, .int .i64 p1, .string s1, .string r1, .string m1, .int .i64 o1] from rfl, show Tok.val ⟨k2, p2, s2, r2, m2, o2⟩ = .agg #[.int .i64 k2, .int .i64 p2, .string s2, .string r2, .string m2, .int .i64 o2] from rfl]
  go_enter Tryz.func50, Tryz.ntmps50
  go_wp2_with fail
  all_goals
    go_ret
    refine ⟨?_, ?_⟩
  all_goals first | exact ((Gr.refl w).alloc _).alloc _ | (simp [sameT]; simp_all)
theorem tokSame_r (t u : Tok) (w : World) : Calls Tryz.prog 31 #[t.val, u.val] w fun e w' => e = .returned (.bool (sameT t u)) ∧ Gr w w' := by
  obtain ⟨k1, p1, s1, r1, m1, o1⟩ := t
  obtain ⟨k2, p2, s2, r2, m2, o2⟩ := u
  rw [show Tok.val ⟨k1, p1, s1, r1, m1, o1⟩ = .agg #[.int .i64 k1, .int .i64 p1, .string s1, .string r1, .string m1, .int .i64 o1] from rfl, show Tok.val ⟨k2, p2, s2, r2, m2, o2⟩ = .agg #[.int .i64 k2, .int .i64 p2, .string s2, .string r2, .string m2, .int .i64 o2] from rfl]
  go_enter Tryz.func31, Tryz.ntmps31
  go_wp2_with fail
  all_goals
    go_ret
    refine ⟨?_, ?_⟩
  all_goals first | exact ((Gr.refl w).alloc _).alloc _ | (simp [sameT]; simp_all)
end Go.Proofs.YthmopindibdhnaaGreatDoor
namespace Go.Proofs.YthmopindibdhnaaGreatDoor
open Go.RowKit Go.Shelf
/-- the value v has the tokens l, wherever they lie -/
def TksIs (w : World) (v : Value) (l : List Tok) : Prop := ∃ ao cap, v = .slice ao l.length cap ∧ ∀ k (h : k < l.length), ∃ b o, ao = some ⟨b, o, none⟩ ∧ b < w.heap.size ∧
  w.cell? ⟨b, o + k * 6, none⟩ = some (.int .i64 l[k].kind) ∧ w.cell? ⟨b, o + k * 6 + 1, none⟩ = some (.int .i64 l[k].place) ∧ w.cell? ⟨b, o + k * 6 + 2, none⟩ = some (.string l[k].text) ∧
  w.cell? ⟨b, o + k * 6 + 3, none⟩ = some (.string l[k].repl) ∧ w.cell? ⟨b, o + k * 6 + 4, none⟩ = some (.string l[k].more) ∧ w.cell? ⟨b, o + k * 6 + 5, none⟩ = some (.int .i64 l[k].opn)
theorem TksIs.gr {w w' : World} {v : Value} {l : List Tok} (h : TksIs w v l) (hg : Gr w w') : TksIs w' v l := by
  obtain ⟨ao, cap, rfl, h⟩ := h
  refine ⟨ao, cap, rfl, fun k hk => ?_⟩
  obtain ⟨b, o, rfl, hb, c⟩ := h k hk
  refine ⟨b, o, rfl, Nat.lt_of_lt_of_le hb hg.size, ?_⟩
  simp only [cell_gr hg hb]
  exact c
/-- how many tokens at the begin are the same -/
def alikeN : List Tok → List Tok → Nat
  | t :: k, u :: l => if sameT t u = true then alikeN k l + 1 else 0
  | _, _ => 0
variable {k l : List Tok} {n : Nat}
theorem alikeN_on (h1 : n < k.length) (h2 : n < l.length) (hs : sameT k[n] l[n] = true) : alikeN (k.drop n) (l.drop n) = alikeN (k.drop (n + 1)) (l.drop (n + 1)) + 1 := by
  rw [List.drop_eq_getElem_cons h1, List.drop_eq_getElem_cons h2, alikeN, if_pos hs]
theorem alikeN_off (h1 : n < k.length) (h2 : n < l.length) (hs : sameT k[n] l[n] = false) : alikeN (k.drop n) (l.drop n) = 0 := by
  rw [List.drop_eq_getElem_cons h1, List.drop_eq_getElem_cons h2, alikeN, if_neg (by rw [hs]; decide)]
theorem alikeN_end1 (h1 : ¬ n < k.length) : alikeN (k.drop n) (l.drop n) = 0 := by
  rw [List.drop_eq_nil_of_le (by omega), alikeN]
  simp
theorem alikeN_end2 (h1 : ¬ n < l.length) : alikeN (k.drop n) (l.drop n) = 0 := by
  rw [List.drop_eq_nil_of_le (by omega : l.length ≤ n)]
  cases k.drop n <;> rfl
set_option maxRecDepth 100000 in
set_option maxHeartbeats 2000000 in
theorem alike_p {a b : Value} (w : World) (hk : TksIs w a k) (hl : TksIs w b l) (hkl : k.length ≤ 9223372036854775807) : Calls Tryz.prog 32 #[a, b] w fun e w' => e = .returned (.int .i64 (alikeN k l)) ∧ Gr w w' := by
  have HK := Lib.hid hk
  have HL := Lib.hid hl
  obtain ⟨a1, cap1, rfl, hc1⟩ := hk
  obtain ⟨a2, cap2, rfl, hc2⟩ := hl
  have Hc1 := Lib.hid hc1
  have Hc2 := Lib.hid hc2
  have Hkl := Lib.hid hkl
  clear hc1 hc2 hkl
  have HR : Hid (alikeN k l = 0 + alikeN (k.drop 0) (l.drop 0)) := Lib.hid (by simp)
  generalize alikeN k l = R at *
  have HS := Lib.hid (fun t u w => tokSame_p t u w)
  go_enter Tryz.func32, Tryz.ntmps32
  go_wp2_with fail
  go_loopw [5] (fun nv wr => ∃ n : Nat, nv = .int .i64 (n : Int) ∧ n ≤ k.length ∧ Gr w wr ∧ Hid (R = n + alikeN (k.drop n) (l.drop n))) (fun nv _ => leftTo k.length nv)
  case atStart => exact ⟨0, rfl, Nat.zero_le _, Gr.refl w, HR⟩
  case round =>
    obtain ⟨n, rfl, hn, hg, hR⟩ := hrel
    have Hg := Lib.hid hg
    clear hg HR
    by_cases h1 : n < k.length
    · by_cases h2 : n < l.length
      · obtain ⟨b1, o1, rfl, hb1, x0, x1, x2, x3, x4, x5⟩ := Hc1.out n h1
        obtain ⟨b2, o2, rfl, hb2, y0, y1, y2, y3, y4, y5⟩ := Hc2.out n h2
        rw [← cell_gr Hg.out hb1] at x0 x1 x2 x3 x4 x5
        rw [← cell_gr Hg.out hb2] at y0 y1 y2 y3 y4 y5
        have i1 : (n : Int) < (k.length : Int) := by omega
        have i2 : (n : Int) < (l.length : Int) := by omega
        have hS := Lib.hid (fun w => HS.out k[n] l[n] w)
        have Hon := Lib.hid (fun hs => alikeN_on h1 h2 hs)
        have Hoff := Lib.hid (fun hs => alikeN_off h1 h2 hs)
        rw [show Tok.val k[n] = .agg #[.int .i64 k[n].kind, .int .i64 k[n].place, .string k[n].text, .string k[n].repl, .string k[n].more, .int .i64 k[n].opn] from rfl, show Tok.val l[n] = .agg #[.int .i64 l[n].kind, .int .i64 l[n].place, .string l[n].text, .string l[n].repl, .string l[n].more, .int .i64 l[n].opn] from rfl] at hS
        have Hn1 : Hid (n < k.length ∧ n ≤ 9223372036854775807) := Lib.hid (by have := Hkl.out; omega)
        have b1' : (n : Int) + 1 ≤ 9223372036854775807 := by have := Hkl.out; omega
        have b2' : -9223372036854775808 ≤ (n : Int) + 1 := by omega
        generalize sameT k[n] l[n] = same at *
        generalize k[n] = t at *
        generalize l[n] = u at *
        clear HS Hc1 Hc2 HK HL h1 h2 hn hb1 hb2
        cases same
        · have E : Hid (R = n) := Lib.hid (by rw [hR.out, Hoff.out rfl]; omega)
          clear Hon Hoff hR
          go_wp2_with fail
          go_still_tail 19, (by kernel_rfl)
          change wpList _ _ _ _ _ wr.drew
          generalize hW2 : wr.drew = w2
          have G2 := Lib.hid (by rw [← hW2]; exact Hg.out.drew : Gr w w2)
          clear hW2 x0 x1 x2 x3 x4 x5 y0 y1 y2 y3 y4 y5
          go_wp2_with fail
          refine (hS.out _).mono ?_
          rintro e9 w9 ⟨rfl, g9⟩
          have G9 := Lib.hid (G2.out.trans g9)
          clear g9
          go_wp2_with fail
          go_ret
          rw [E.out]
          exact ⟨rfl, G9.out⟩
        · have HE := Lib.hid (Hon.out rfl)
          clear Hon Hoff
          go_wp2_with fail
          go_still_tail 19, (by kernel_rfl)
          change wpList _ _ _ _ _ wr.drew
          generalize hW2 : wr.drew = w2
          have G2 := Lib.hid (by rw [← hW2]; exact Hg.out.drew : Gr w w2)
          clear hW2 x0 x1 x2 x3 x4 x5 y0 y1 y2 y3 y4 y5
          go_wp2_with fail
          refine (hS.out _).mono ?_
          rintro e9 w9 ⟨rfl, g9⟩
          have G9 := Lib.hid (G2.out.trans g9)
          clear g9
          go_wp2_with fail
          go_roundw
          case rel => have := Hn1.out; exact ⟨n + 1, rfl, by omega, G9.out, Lib.hid (by rw [hR.out, HE.out]; omega)⟩
          case measure => have := Hn1.out; simp only [leftTo]; omega
      · have i1 : (n : Int) < (k.length : Int) := by omega
        have i2 : decide ((n : Int) < (l.length : Int)) = false := by simp; omega
        have i3 : decide (n < l.length) = false := by simpa using h2
        have E : Hid (R = n) := Lib.hid (by rw [hR.out, alikeN_end2 h2]; omega)
        clear hR HS Hc1 Hc2 HK HL h1 h2 hn
        go_wp2_with fail
        go_quiet (fail)
        go_wp2_with fail
        go_ret
        rw [E.out]
        exact ⟨rfl, Hg.out.drewN _⟩
    · have i1 : decide ((n : Int) < (k.length : Int)) = false := by simp; omega
      have i3 : decide (n < k.length) = false := by simpa using h1
      have E : Hid (R = n) := Lib.hid (by rw [hR.out, alikeN_end1 h1]; omega)
      clear hR HS Hc1 Hc2 HK HL h1 hn
      go_wp2_with fail
      go_quiet (fail)
      go_wp2_with fail
      go_ret
      rw [E.out]
      exact ⟨rfl, Hg.out.drewN _⟩
end Go.Proofs.YthmopindibdhnaaGreatDoor
