/- The spans of a row, appended. -/
import Derived.Test.YtiohoiebnpdkbaaDoorCHas
import Derived.Test.YtiohoiebnpdkbaaDoorCSpn
namespace Go.Proofs.YtiohoiebnpdkbaaDoor
open Go.RowKit Go.Shelf
set_option maxRecDepth 100000 in
set_option maxHeartbeats 1000000 in
theorem append_p {l : List (Int × Int)} (hl : l.length = 9) (hb : ∀ p ∈ l, 0 ≤ p.1 ∧ p.1 ≤ p.2 ∧ p.2 ≤ 1114111) {w0 w : World} {v : Value} {out : List (Int × Int)} (ho : out.length ≤ 1000) (hown : OwnS w w0.heap.size v out) (hg : Gr w0 w) :
    Calls Tryd.prog 29 #[rowV l, v] w fun e w' => ∃ v', e = .returned v' ∧ OwnS w' w0.heap.size v' (out ++ nzL l) ∧ Gr w0 w' := by
  have HX := Lib.hid (fun k h w => index_row hl k h w)
  have HR : Hid (out ++ nzL l = out ++ nzL (l.drop 0)) := Lib.hid rfl
  have HL := Lib.hid hl
  have HO := Lib.hid hown
  have HG := Lib.hid hg
  have HB := Lib.hid hb
  obtain ⟨i0, hi, hz0, hz1, hz2⟩ := info_parts infoSpan
  generalize out ++ nzL l = R at *
  obtain ⟨A, hA, hA2⟩ := row_size hl
  rw [hA] at HX ⊢
  have hld := Lib.hid (fun W : World => run_load_row W hA2)
  clear hA hl hA2 hown hg hb
  go_enter Tryd.func29, Tryd.ntmps29
  go_wp2_with (refine wpList_load_row rfl (.tmp 2) rfl rfl (hld.out _) ?_)
  go_loopw [1, 6, 8] (fun v _ sc wr => ∃ (n : Nat) (o : List (Int × Int)), sc = .int .i64 (n : Int) ∧ n ≤ 9 ∧ o.length ≤ 1000 + n ∧ OwnS wr w0.heap.size v o ∧ Gr w0 wr ∧ Hid (R = o ++ nzL (l.drop n))) (fun _ _ sc _ => left9 sc)
  case atStart => exact ⟨0, out, rfl, by decide, by omega, HO.out.alloc _, HG.out.alloc _, HR⟩
  case round =>
    obtain ⟨n, o, rfl, hn, hlo, hown, hg, hR⟩ := hrel
    clear HR HO HG
    have Hg := Lib.hid hg
    have Hown := Lib.hid hown
    clear hg hown
    by_cases hc : n < 9
    · have hnl : n < l.length := by rw [HL.out]; exact hc
      have hx : ∀ W : World, (Instr.index 49 (.agg A) (.int .i64 (n : Int))).run Tryd.prog W = .ok (.agg #[.int .i32 l[n].1, .int .i32 l[n].2]) W := fun W => HX.out n hnl W
      have hR2 : Hid (R = o ++ ((if zeroP l[n] = true then [] else [l[n]]) ++ nzL (l.drop (n + 1)))) := Lib.hid (by rw [hR.out, nzL_step hnl])
      have hB := HB.out l[n] (List.getElem_mem hnl)
      generalize l[n] = p at *
      obtain ⟨a, b⟩ := p
      obtain ⟨b0, b1', b3⟩ := hB
      have hc' : (n : Int) < 9 := by omega
      clear hR HX HL hnl HB
      simp only at b0 b1' b3
      have b1 : a ≤ 1114111 := by omega
      have b2 : 0 ≤ b := by omega
      by_cases hz : a = 0 ∧ b = 0
      · obtain ⟨rfl, rfl⟩ := hz
        have E : Hid (R = o ++ nzL (l.drop (n + 1))) := Lib.hid (by rw [hR2.out]; simp [zeroP])
        clear hR2
        go_wp2_with fail
        go_roundw
        case rel => exact ⟨n + 1, o, rfl, by omega, by omega, Hown.out.alloc _, (Hg.out).alloc _, E⟩
        case measure => simp only [left9]; omega
      · have h1 : (b == 0) = false := by simpa using fun h : b = 0 => hz ⟨by omega, h⟩
        clear b1'
        have E : Hid (R = (o ++ [(a, b)]) ++ nzL (l.drop (n + 1))) := Lib.hid (by
          have : zeroP (a, b) = false := by simp [zeroP, h1]
          rw [hR2.out, this]; simp)
        clear hz hR2
        obtain ⟨ao, cap, rfl⟩ := ownsRow_shape Hown.out
        have Hw := Lib.hid (Gr.size Hg.out)
        go_wp2_with (at_builtin; refine wpList_append_own _ rfl (.tmp 14) (.tmp 22) 25 rfl w0.heap.size 29 i0 (.agg #[.int .i64 0, .int .i64 0]) 2 16 Tryd.underlying25 hi hz0 hz1 hz2 rfl (by decide) _ _ _ rfl ((Hown.out.alloc _).alloc _) ⟨wr.heap.size + 1, 0, none⟩ 1 1 [.int .i64 a, .int .i64 b] rfl rfl ?c1 ?c2 ?c3 ?c4 ?c5 ?_)
        · show _ ∧ _; exact ⟨rfl, rfl⟩
        · unfold maxLen; omega
        · omega
        · have := Hw.out; omega
        intro v' w1 hown' hgrow _
        have Hown' := Lib.hid hown'
        have hg1 : Hid (Gr w0 w1) := Lib.hid (Below.grown ((Hg.out.alloc _).alloc _) hgrow (Nat.le_trans Hw.out (by simp; omega)) (fun k hk => (Hown.out.lt k hk).1))
        clear hown' hgrow
        go_wp2_with fail
        go_roundw
        case rel => exact ⟨n + 1, o ++ [(a, b)], rfl, by omega, by simp; omega, by
          show World.ownsRow _ _ _ _ _ (o ++ [(a, b)]).length (cellsS (o ++ [(a, b)]))
          rw [List.length_append, cellsS_app, cellsS_one]; exact Hown'.out, hg1.out, E⟩
        case measure => simp only [left9]; omega
    · have hc' : ¬ (n : Int) < 9 := by omega
      have E : Hid (R = o) := Lib.hid (by rw [hR.out, List.drop_eq_nil_of_le (by rw [HL.out]; omega)]; simp [nzL])
      clear hR HX HL HB
      go_wp2
      go_ret
      exact ⟨_, rfl, by rw [E.out]; exact Hown.out, Hg.out⟩
end Go.Proofs.YtiohoiebnpdkbaaDoor
