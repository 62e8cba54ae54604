/- The reference's Spans, character by character. -/
import Derived.Test.YtiohoiebnpdkbaaDoorCSpn
namespace Go.Proofs.YtiohoiebnpdkbaaDoor
open Go.RowKit Go.Shelf
def upTo : Value → Nat
  | .int _ c => (65536 - c).toNat
  | _ => 0
set_option maxRecDepth 100000 in
set_option maxHeartbeats 1000000 in
theorem spans_r {s : ByteArray} {q : Int → Bool} (h : Cl s q) (hany : s ≠ ⟨#[97, 110, 121]⟩) (w : World) : Calls Tryd.prog 9 #[.string s] w (SpPost (spansL q) w) := by
  have HC := Lib.hid (fun w => isClass_r h w)
  have HI := Lib.hid (fun c w => in_r h c w)
  have k7 : (s.toList == [97, 110, 121]) = false := ne_list hany
  have HX := Lib.hid (fun c w => isChar_r c w)
  obtain ⟨i0, hi, hz0, hz1, hz2⟩ := info_parts infoSpan
  have HR : Hid (spansL q = runS q (65536 - 0 : Int).toNat 0 []) := Lib.hid rfl
  generalize spansL q = R at *
  clear h hany
  go_enter Tryd.func9, Tryd.ntmps9
  go_wp2_with fail
  refine (HC.out _).mono ?_
  rintro e w1 ⟨rfl, rfl⟩
  go_wp2_with fail
  go_loopw [4, 5] (fun v sc wr => ∃ (c : Int) (out : List (Int × Int)), sc = .int .i64 c ∧ 0 ≤ c ∧ c ≤ 65536 ∧ (out.length : Int) ≤ c ∧ OwnS wr w.heap.size v out ∧ Gr w wr ∧ Hid (R = runS q (65536 - c).toNat c out)) (fun _ sc _ => upTo sc)
  case atStart => exact ⟨0, [], rfl, by decide, by decide, by decide, World.ownsRow_nil _ _ _ _, Gr.refl w, HR⟩
  case round =>
    obtain ⟨c, out, rfl, hc0, hc1, hlc, hown, hg, hRR⟩ := hrel
    clear HR
    have Hown := Lib.hid hown
    have Hg := Lib.hid hg
    clear hown hg
    by_cases hc : c ≤ 65535
    · have hst : Hid (R = runS q (65536 - (c + 1)).toNat (c + 1) (stepS q out c)) := Lib.hid (by
        rw [hRR.out, show (65536 - c).toNat = (65536 - (c + 1)).toNat + 1 by omega]; rfl)
      have HXc := Lib.hid (fun w => HX.out c w)
      have HIc := Lib.hid (fun w => HI.out c w)
      clear hRR HX HI HC
      by_cases hch : isCh c = true
      · by_cases hq : q c = true
        · rcases List.eq_nil_or_concat out with rfl | ⟨o, p, rfl⟩
          · have hE : Hid (R = runS q (65536 - (c + 1)).toNat (c + 1) ([] ++ [(c, c)])) := Lib.hid (by
              rw [hst.out, stepS_new ⟨hch, hq⟩ (fun p h => by cases h)])
            rw [hch] at HXc
            rw [hq] at HIc
            clear hst hch hq
            obtain ⟨ao, cap, rfl⟩ := ownsRow_shape Hown.out
            have Hw := Lib.hid (Gr.size Hg.out)
            go_wp2_with fail
            refine (HXc.out _).mono ?_
            rintro e w3 ⟨rfl, rfl⟩
            go_wp2_with fail
            refine (HIc.out _).mono ?_
            rintro e w3 ⟨rfl, rfl⟩
            go_wp2_with (at_builtin; refine wpList_append_own _ rfl (.tmp 49) (.tmp 53) 25 rfl w.heap.size 29 i0 (.agg #[.int .i64 0, .int .i64 0]) 2 16 Tryd.underlying25 hi hz0 hz1 hz2 rfl (by decide) _ _ _ rfl (Hown.out.alloc _) ⟨wr.heap.size, 0, none⟩ 1 1 [.int .i64 c, .int .i64 c] rfl rfl ?c1 ?c2 ?c3 ?c4 ?c5 ?_)
            case c1 =>
              intro j u hj
              match j, hj with
              | 0, hj => simp at hj; subst hj; simp [Addr.add]
              | 1, hj => simp at hj; subst hj; simp [Addr.add]
            case c2 => intro u hu; simp at hu; subst hu; rfl
            case c3 => unfold maxLen; omega
            case c4 => omega
            case c5 => have := Hw.out; simp; omega
            intro v' w1 hown' hgrow _
            have Hown' := Lib.hid hown'
            have hg1 : Hid (Gr w w1) := Lib.hid (Below.grown (Gr.alloc Hg.out _) hgrow (Nat.le_trans Hw.out (by simp)) (fun k hk => (Hown.out.lt k hk).1))
            clear hown' hgrow
            go_wp2_with fail
            go_roundw
            case rel => exact ⟨c + 1, [] ++ [(c, c)], rfl, by omega, by omega, by simp at *; omega, by
              show World.ownsRow _ _ _ _ _ ([] ++ [(c, c)]).length (cellsS ([] ++ [(c, c)]))
              rw [List.length_append, cellsS_app, cellsS_one]; exact Hown'.out, hg1.out, hE⟩
            case measure => simp only [upTo]; omega
          · rw [List.concat_eq_append] at *
            have hl1 : (o ++ [p]).length = o.length + 1 := by simp
            rw [hch] at HXc
            rw [hq] at HIc
            obtain ⟨g, cap, rfl, hb, hlt, hc0', hc1', hfr, hset⟩ := OwnS.last Hown.out
            rw [hl1] at hlc
            by_cases hp : p.2 = c - 1
            · have hE : Hid (R = runS q (65536 - (c + 1)).toNat (c + 1) (o ++ [(p.1, c)])) := Lib.hid (by
                have e := stepS_on (q := q) (out := o) (lo := p.1) ⟨hch, hq⟩
                rw [hst.out, ← e, ← hp])
              have hpb : (p.2 == c - 1) = true := beq_iff_eq.2 hp
              have HS := Lib.hid (hset c)
              have hG : Hid (Gr w (wr.setCell ⟨g, o.length * 2 + 1, none⟩ (.int .i64 c))) := Lib.hid (Below.setCell Hg.out hb _)
              clear hst hch hq hset
              have Hw := Lib.hid (Gr.size Hg.out)
              go_wp2_with fail
              refine (HXc.out _).mono ?_
              rintro e w3 ⟨rfl, rfl⟩
              go_wp2_with fail
              refine (HIc.out _).mono ?_
              rintro e w3 ⟨rfl, rfl⟩
              go_wp2_with fail
              go_roundw
              case rel => exact ⟨c + 1, o ++ [(p.1, c)], rfl, by omega, by omega, by simp; omega, HS.out, hG.out, hE⟩
              case measure => simp only [upTo]; omega
            · have hE : Hid (R = runS q (65536 - (c + 1)).toNat (c + 1) ((o ++ [p]) ++ [(c, c)])) := Lib.hid (by
                rw [hst.out, stepS_new ⟨hch, hq⟩ (fun x h => by rw [List.getLast?_concat] at h; cases h; exact hp)])
              have hpb : (p.2 == c - 1) = false := beq_eq_false_iff_ne.2 hp
              have HS := Lib.hid hset
              clear hst hch hq hset
              have Hw := Lib.hid (Gr.size Hg.out)
              go_wp2_with fail
              refine (HXc.out _).mono ?_
              rintro e w3 ⟨rfl, rfl⟩
              go_wp2_with fail
              refine (HIc.out _).mono ?_
              rintro e w3 ⟨rfl, rfl⟩
              go_wp2_with (at_builtin; refine wpList_append_own _ rfl (.tmp 49) (.tmp 53) 25 rfl w.heap.size 29 i0 (.agg #[.int .i64 0, .int .i64 0]) 2 16 Tryd.underlying25 hi hz0 hz1 hz2 rfl (by decide) _ _ _ rfl (Hown.out.alloc _) ⟨wr.heap.size, 0, none⟩ 1 1 [.int .i64 c, .int .i64 c] rfl rfl ?c1 ?c2 ?c3 ?c4 ?c5 ?_)
              case c1 =>
                intro j u hj
                match j, hj with
                | 0, hj => simp at hj; subst hj; simp [Addr.add]
                | 1, hj => simp at hj; subst hj; simp [Addr.add]
              case c2 => intro u hu; simp at hu; subst hu; rfl
              case c3 => unfold maxLen; omega
              case c4 => omega
              case c5 => have := Hw.out; simp; omega
              intro v' w1 hown' hgrow _
              have Hown' := Lib.hid hown'
              have hg1 : Hid (Gr w w1) := Lib.hid (Below.grown (Gr.alloc Hg.out _) hgrow (Nat.le_trans Hw.out (by simp)) (fun k hk => (Hown.out.lt k hk).1))
              clear hown' hgrow
              go_wp2_with fail
              go_roundw
              case rel => exact ⟨c + 1, (o ++ [p]) ++ [(c, c)], rfl, by omega, by omega, by simp at *; omega, by
                show World.ownsRow _ _ _ _ _ ((o ++ [p]) ++ [(c, c)]).length (cellsS ((o ++ [p]) ++ [(c, c)]))
                rw [show ((o ++ [p]) ++ [(c, c)]).length = o.length + 1 + 1 by simp, cellsS_app (o ++ [p]), cellsS_one]; exact Hown'.out, hg1.out, hE⟩
              case measure => simp only [upTo]; omega
        · have hE : Hid (R = runS q (65536 - (c + 1)).toNat (c + 1) out) := Lib.hid (by rw [hst.out, stepS_out (fun h => hq h.2)])
          rw [hch] at HXc
          rw [show q c = false by simpa using hq] at HIc
          clear hst hch hq
          go_wp2_with fail
          refine (HXc.out _).mono ?_
          rintro e w3 ⟨rfl, rfl⟩
          go_wp2_with fail
          refine (HIc.out _).mono ?_
          rintro e w3 ⟨rfl, rfl⟩
          go_wp2_with fail
          go_roundw
          case rel => exact ⟨c + 1, out, rfl, by omega, by omega, by omega, Hown.out, Hg.out, hE⟩
          case measure => simp only [upTo]; omega
      · have hE : Hid (R = runS q (65536 - (c + 1)).toNat (c + 1) out) := Lib.hid (by rw [hst.out, stepS_out (fun h => hch h.1)])
        rw [show isCh c = false by simpa using hch] at HXc
        clear hst hch HIc
        go_wp2_with fail
        refine (HXc.out _).mono ?_
        rintro e w3 ⟨rfl, rfl⟩
        go_wp2_with fail
        go_roundw
        case rel => exact ⟨c + 1, out, rfl, by omega, by omega, by omega, Hown.out, Hg.out, hE⟩
        case measure => simp only [upTo]; omega
    · have E : Hid (R = out) := Lib.hid (by rw [hRR.out, show (65536 - c).toNat = 0 by omega]; rfl)
      clear hRR
      go_wp2
      go_ret2
      exact ⟨_, rfl, by rw [E.out]; exact Hown.out, Hg.out⟩
theorem spans_ra (w : World) : Calls Tryd.prog 9 #[.string ⟨#[97, 110, 121]⟩] w (SpPost [(0, 55295), (57344, 1114111)] w) := by
  have HC := Lib.hid (fun w => isClass_r .c_any w)
  go_enter Tryd.func9, Tryd.ntmps9
  go_wp2_with fail
  refine (HC.out _).mono ?_
  rintro e w1 ⟨rfl, rfl⟩
  go_wp2
  go_ret2
  refine ⟨_, rfl, ⟨rfl, .inr ⟨w.heap.size, 2, _, rfl, Nat.le_refl _, heap_alloc_new w _, Nat.le_refl _, by decide, rfl, rfl⟩⟩, (Gr.refl w).alloc _⟩
end Go.Proofs.YtiohoiebnpdkbaaDoor
