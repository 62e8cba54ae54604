/- The spans that touch, joined. -/
import Derived.Test.YtiohoiebnpdkbaaDoorCSpP
namespace Go.Proofs.YtiohoiebnpdkbaaDoor
open Go.RowKit Go.Shelf
theorem OwnS.cells {w : World} {base : Nat} {v : Value} {l : List (Int × Int)} (h : OwnS w base v l) (hne : l ≠ []) : ∃ g cap, v = .slice (some ⟨g, 0, none⟩) l.length cap ∧ base ≤ g ∧ g < w.heap.size ∧
    ∀ (X : World), X.heap[g]? = w.heap[g]? → ∀ (k : Nat) (hk : k < l.length), X.cell? ⟨g, k * 2, none⟩ = some (.int .i64 l[k].1) ∧ X.cell? ⟨g, k * 2 + 1, none⟩ = some (.int .i64 l[k].2) := by
  obtain ⟨h1, h2⟩ := h
  rcases h2 with ⟨_, h0⟩ | ⟨g, cap, cur, rfl, hb, hh, hn, hm, hs, ht⟩
  · exact absurd (List.length_eq_zero_iff.1 (by simpa using h0)) hne
  · refine ⟨g, cap, rfl, hb, (Array.getElem?_eq_some_iff.1 hh).1, fun X hX k hk => ?_⟩
    have e : ∀ t, t < l.length * 2 → cur[t]? = some ((encS l[t / 2]!)[t % 2]!) := fun t ht' => by
      have := congrArg (fun x => x[t]?) ht
      rw [List.getElem?_take, if_pos ht', cellsS_get _ _ ht', Array.getElem?_toList] at this
      exact this
    have e0 := e (k * 2) (by omega)
    have e1 := e (k * 2 + 1) (by omega)
    rw [show k * 2 / 2 = k by omega, show k * 2 % 2 = 0 by omega, getElem!_pos l k hk] at e0
    rw [show (k * 2 + 1) / 2 = k by omega, show (k * 2 + 1) % 2 = 1 by omega, getElem!_pos l k hk] at e1
    exact ⟨by simpa [World.cell?, hX, hh, encS] using e0, by simpa [World.cell?, hX, hh, encS] using e1⟩
theorem newCellsAt {X : World} {g : Nat} (hg : X.heap.size = g) {l : List Value} {t : TypeId} {j : Nat} {u : Value} (h : l[j]? = some u) : (X.alloc (.cells l.toArray t)).cell? ((⟨g, 0, none⟩ : Addr).add j) = some u := by
  subst hg; exact newCellsL X l t j u h
theorem OwnS.setLast {X : World} {base g n cap : Nat} {o : List (Int × Int)} {q : Int × Int} (h : OwnS X base (.slice (some ⟨g, 0, none⟩) n cap) (o ++ [q])) (c : Int) :
    OwnS (X.setCell ⟨g, o.length * 2 + 1, none⟩ (.int .i64 c)) base (.slice (some ⟨g, 0, none⟩) n cap) (o ++ [(q.1, c)]) := by
  obtain ⟨g2, cap2, e, _, _, _, _, _, hset⟩ := OwnS.last h
  injection e with e1 e2 e3
  injection e1 with e1
  injection e1 with e1
  subst e1
  exact hset c
theorem foldl_step {l : List (Int × Int)} {n : Nat} (h : n < l.length) (o : List (Int × Int)) : (l.drop n).foldl joinS o = (l.drop (n + 1)).foldl joinS (joinS o l[n]) := by
  rw [List.drop_eq_getElem_cons h, List.foldl_cons]
theorem joinS_new {o : List (Int × Int)} {p q : Int × Int} (h : q.2 + 1 ≠ p.1) : joinS (o ++ [q]) p = (o ++ [q]) ++ [p] := by
  unfold joinS; rw [List.getLast?_concat]; exact if_neg h
theorem joinS_on {o : List (Int × Int)} {p q : Int × Int} (h : q.2 + 1 = p.1) : joinS (o ++ [q]) p = o ++ [(q.1, p.2)] := by
  unfold joinS; rw [List.getLast?_concat]; simp [h]
theorem joinS_nil {p : Int × Int} : joinS [] p = [p] := rfl
set_option maxRecDepth 100000 in
set_option maxHeartbeats 1000000 in
theorem joined_p {w0 w : World} {v : Value} {d : List (Int × Int)} (h : OwnS w w0.heap.size v d) (hne : d ≠ []) (hb : ∀ p ∈ d, 0 ≤ p.1 ∧ p.1 ≤ 1114111 ∧ 0 ≤ p.2 ∧ p.2 ≤ 1114111) (hsz : d.length < 1000) :
    Calls Tryd.prog 33 #[v] w fun e w' => ∃ v', e = .returned v' ∧ OwnS w' w.heap.size v' (joinL d) ∧ Gr w w' := by
  obtain ⟨g, cap, rfl, hgb, hglt, hcells⟩ := OwnS.cells h hne
  have HC := Lib.hid hcells
  have HB := Lib.hid hb
  obtain ⟨i0, hi, hz0, hz1, hz2⟩ := info_parts infoSpan
  have HR : Hid (joinL d = (d.drop 0).foldl joinS []) := Lib.hid rfl
  generalize joinL d = R at *
  clear h hcells hb hne hgb
  go_enter Tryd.func33, Tryd.ntmps33
  go_wp2_with fail
  go_loopw [3, 5, 6, 9] (fun v _ _ sc wr => ∃ (n : Nat) (o : List (Int × Int)), sc = .int .i64 (n : Int) ∧ n ≤ d.length ∧ o.length ≤ n ∧ (∀ p ∈ o, 0 ≤ p.2 ∧ p.2 ≤ 1114111) ∧ OwnS wr w.heap.size v o ∧ Gr w wr ∧ Hid (R = (d.drop n).foldl joinS o)) (fun _ _ _ sc _ => leftN d.length sc)
  case atStart => exact ⟨0, [], rfl, by omega, by simp, by simp, World.ownsRow_nil _ _ _ _, Gr.refl w, HR⟩
  case round =>
    obtain ⟨n, o, rfl, hn, hlo, hbo, hown, hg, hR⟩ := hrel
    clear HR
    have Hg := Lib.hid hg
    have Hown := Lib.hid hown
    have HBo := Lib.hid hbo
    clear hg hown hbo
    by_cases hc : n < d.length
    · have hR2 : Hid (R = (d.drop (n + 1)).foldl joinS (joinS o d[n])) := Lib.hid (by rw [hR.out, foldl_step hc])
      obtain ⟨c0, c1⟩ := HC.out wr (Hg.out.block _ hglt) n hc
      obtain ⟨b0, b1, b2, b3⟩ := HB.out d[n] (List.getElem_mem hc)
      generalize d[n] = p at *
      obtain ⟨a, b⟩ := p
      simp only at c0 c1 b0 b1 b2 b3
      have hc' : (n : Int) < (d.length : Int) := by omega
      have Hw := Lib.hid (Gr.size Hg.out)
      clear hR HC HB
      rcases List.eq_nil_or_concat o with rfl | ⟨o, q, rfl⟩
      · have E : Hid (R = (d.drop (n + 1)).foldl joinS ([] ++ [(a, b)])) := Lib.hid (by rw [hR2.out]; rfl)
        clear hR2
        obtain ⟨ao, cap, rfl⟩ := ownsRow_shape Hown.out
        go_wp2_with fail
        go_quiet (fail)
        go_wp2_with (at_builtin; refine wpList_append_own _ rfl (.tmp 35) (.tmp 37) 25 rfl w.heap.size 29 i0 (.agg #[.int .i64 0, .int .i64 0]) 2 16 Tryd.underlying25 hi hz0 hz1 hz2 rfl (by decide) _ _ _ rfl (ownsRow_gr Hown.out ((((Gr.refl wr).alloc _).drewN _).alloc _)) ⟨wr.heap.size + 1, 0, none⟩ 1 1 [.int .i64 a, .int .i64 b] rfl rfl ?c1 ?c2 ?c3 ?c4 ?c5 ?_)
        case c1 => exact fun j u hj => newCellsAt (l := [.int .i64 a, .int .i64 b]) (by simp) hj
        case c2 => intro u hu; simp at hu; rcases hu with rfl | rfl <;> rfl
        case c3 => unfold maxLen; omega
        case c4 => omega
        case c5 => have := Hw.out; simp; omega
        intro v' w1 hown' hgrow _
        have Hown' := Lib.hid hown'
        have hg1 : Hid (Gr w w1) := Lib.hid (Below.grown (((Hg.out.alloc _).drewN _).alloc _) hgrow (((Hg.out.alloc _).drewN _).alloc _).size (fun k hk => (Hown.out.lt k hk).1))
        clear hown' hgrow
        go_wp2_with fail
        go_roundw
        case rel => exact ⟨n + 1, [] ++ [(a, b)], rfl, by omega, by first | (simp; done) | (simp; omega), (fun p hp => by
          rcases List.mem_append.1 hp with hp | hp
          · exact HBo.out p hp
          · simp at hp; subst hp; exact ⟨b2, b3⟩), by
          show World.ownsRow _ _ _ _ _ ([] ++ [(a, b)]).length (cellsS ([] ++ [(a, b)]))
          rw [List.length_append, cellsS_app [], cellsS_one]; exact Hown'.out, hg1.out, E⟩
        case measure => simp only [leftN]; omega
      · rw [List.concat_eq_append] at *
        have hl1 : (o ++ [q]).length = o.length + 1 := by simp
        obtain ⟨g', cap', rfl, hb', hlt', hq0, hq1, hfr, hset⟩ := OwnS.last Hown.out
        rw [hl1] at hlo
        have HS := Lib.hid hset
        clear hset
        obtain ⟨q2, q3⟩ := HBo.out q (by simp)
        have hidx : (o.length : Int) + 1 - 1 = (o.length : Int) := by omega
        by_cases hp : q.2 + 1 = a
        · have E : Hid (R = (d.drop (n + 1)).foldl joinS (o ++ [(q.1, b)])) := Lib.hid (by rw [hR2.out, joinS_on hp])
          have hpb : (q.2 + 1 == a) = true := beq_iff_eq.2 hp
          clear hR2
          go_wp2_with fail
          go_quiet (fail)
          go_wp2_with fail
          go_roundw
          case rel => exact ⟨n + 1, o ++ [(q.1, b)], rfl, by omega, by simp; omega, (fun p hp => by
            rcases List.mem_append.1 hp with hp | hp
            · exact HBo.out p (List.mem_append_left _ hp)
            · simp at hp; subst hp; exact ⟨b2, b3⟩), OwnS.setLast (ownsRow_gr Hown.out (((Gr.refl wr).alloc _).drewN _)) b, ((Hg.out.alloc _).drewN _).setCell hb' _, E⟩
          case measure => simp only [leftN]; omega
        · have E : Hid (R = (d.drop (n + 1)).foldl joinS ((o ++ [q]) ++ [(a, b)])) := Lib.hid (by rw [hR2.out, joinS_new hp])
          have hpb : (q.2 + 1 == a) = false := beq_eq_false_iff_ne.2 hp
          clear hR2
          go_wp2_with fail
          go_quiet (fail)
          go_wp2_with (at_builtin; refine wpList_append_own _ rfl (.tmp 35) (.tmp 37) 25 rfl w.heap.size 29 i0 (.agg #[.int .i64 0, .int .i64 0]) 2 16 Tryd.underlying25 hi hz0 hz1 hz2 rfl (by decide) _ _ _ rfl (ownsRow_gr Hown.out ((((Gr.refl wr).alloc _).drewN _).alloc _)) ⟨wr.heap.size + 1, 0, none⟩ 1 1 [.int .i64 a, .int .i64 b] rfl rfl ?c1 ?c2 ?c3 ?c4 ?c5 ?_)
          case c1 => exact fun j u hj => newCellsAt (l := [.int .i64 a, .int .i64 b]) (by simp) hj
          case c2 => intro u hu; simp at hu; rcases hu with rfl | rfl <;> rfl
          case c3 => unfold maxLen; omega
          case c4 => omega
          case c5 => have := Hw.out; simp; omega
          intro v' w1 hown' hgrow _
          have Hown' := Lib.hid hown'
          have hg1 : Hid (Gr w w1) := Lib.hid (Below.grown (((Hg.out.alloc _).drewN _).alloc _) hgrow (((Hg.out.alloc _).drewN _).alloc _).size (fun k hk => (Hown.out.lt k hk).1))
          clear hown' hgrow
          go_wp2_with fail
          go_roundw
          case rel => exact ⟨n + 1, (o ++ [q]) ++ [(a, b)], rfl, by omega, by first | (simp; done) | (simp; omega), (fun p hp => by
            rcases List.mem_append.1 hp with hp | hp
            · exact HBo.out p hp
            · simp at hp; subst hp; exact ⟨b2, b3⟩), by
            show World.ownsRow _ _ _ _ _ ((o ++ [q]) ++ [(a, b)]).length (cellsS ((o ++ [q]) ++ [(a, b)]))
            rw [show ((o ++ [q]) ++ [(a, b)]).length = o.length + 1 + 1 by simp, cellsS_app (o ++ [q]), cellsS_one]; exact Hown'.out, hg1.out, E⟩
          case measure => simp only [leftN]; omega
    · have hc' : ¬ (n : Int) < (d.length : Int) := by omega
      have E : Hid (R = o) := Lib.hid (by rw [hR.out, List.drop_eq_nil_of_le (by omega)]; rfl)
      clear hR HB HC
      go_wp2
      go_ret
      exact ⟨_, rfl, by rw [E.out]; exact Hown.out, Hg.out⟩
end Go.Proofs.YtiohoiebnpdkbaaDoor
