/- Whether a character is of a class. -/
import Derived.Test.YtiohoiebnpdkbaaDoorCRow2
import Derived.Test.YtiohoiebnpdkbaaDoorCApp
import Derived.Lib.ReflectliteSwap
namespace Go.Proofs.YtiohoiebnpdkbaaDoor
open Go.RowKit Go.Shelf
theorem cellsR_len : ∀ {l : List (List (Int × Int))}, (∀ r ∈ l, r.length = 9) → (cellsR l).length = l.length * 18
  | [], _ => rfl
  | r :: t, h => by
    have e := cellsR_len (l := t) (fun x hx => h x (List.mem_cons_of_mem _ hx))
    obtain ⟨A, _, hA2, hA3, _⟩ := rowA_facts (h r List.mem_cons_self)
    rw [show r :: t = [r] ++ t from rfl, cellsR_app, List.length_append, e, ← hA3, Array.length_toList, hA2, List.length_append]
    simp; omega
/-- a row that the call made: its k-th element, loaded -/
theorem OwnR.load {w : World} {base : Nat} {v : Value} {l : List (List (Int × Int))} (h : OwnR w base v l) (h9 : ∀ r ∈ l, r.length = 9) (hne : l ≠ []) : ∃ g cap, v = .slice (some ⟨g, 0, none⟩) l.length cap ∧ base ≤ g ∧ g < w.heap.size ∧
    ∀ (X : World), X.heap[g]? = w.heap[g]? → ∀ (k : Nat) (hk : k < l.length), (Instr.loadAt 49 (.pointer (some ⟨g, k * 18, none⟩))).run Tryd.prog X = .ok (rowV l[k]) X := by
  obtain ⟨h1, h2⟩ := h
  rcases h2 with ⟨_, h0⟩ | ⟨g, cap, cur, rfl, hb, hh, hn, hm, hs, ht⟩
  · exact absurd (List.length_eq_zero_iff.1 (by simpa using h0)) hne
  · refine ⟨g, cap, rfl, hb, (Array.getElem?_eq_some_iff.1 hh).1, fun X hX k hk => ?_⟩
    obtain ⟨i, hi, hz, hsz, hby⟩ := info_parts infoRowZ
    have hcl : (cellsR [l[k]]).length = 18 := by
      obtain ⟨A, _, hA2, hA3, _⟩ := rowA_facts (h9 l[k] (List.getElem_mem hk))
      rw [← hA3, Array.length_toList, hA2]
    have := Lib.rl_loadVar_cells (P := Tryd.prog) 49 i hi rowAgg g (k * 18) (cellsR [l[k]]) (by rw [hcl, hsz]) X (fun j u hj => by
      have hj18 : j < 18 := by rw [← hcl]; exact (List.getElem?_eq_some_iff.1 hj).1
      have e : (cellsR l)[k * 18 + j]? = some u := by
        rw [← List.take_append_drop k l, cellsR_app]
        have hlt : (cellsR (l.take k)).length = k * 18 := by
          rw [cellsR_len (fun r hr => h9 r (List.mem_of_mem_take hr)), List.length_take, Nat.min_eq_left (by omega)]
        rw [List.getElem?_append_right (by omega), hlt, Nat.add_sub_cancel_left, List.drop_eq_getElem_cons hk, show (l[k] :: l.drop (k + 1)) = [l[k]] ++ l.drop (k + 1) from rfl, cellsR_app, List.getElem?_append_left (by rw [hcl]; exact hj18)]
        exact hj
      rw [← ht, List.getElem?_take] at e
      split at e
      · simpa [World.cell?, hX, hh] using e
      · cases e)
    simp only [Instr.loadAt, Instr.sureAddr, Sem.run_bind, Sem.run_pure, Result.andThen]
    rw [this]
    simp [rowV, cellsR]
def hasR (l : List (List (Int × Int))) (c : Int) : Bool := l.any fun r => hasB r c
theorem hasR_step {l : List (List (Int × Int))} {n : Nat} (h : n < l.length) (c : Int) : hasR (l.drop n) c = (hasB l[n] c || hasR (l.drop (n + 1)) c) := by
  unfold hasR
  rw [List.drop_eq_getElem_cons h, List.any_cons]
def leftN (m : Nat) : Value → Nat
  | .int _ c => (m - c).toNat
  | _ => 0
def RowsAt (s : ByteArray) (l : List (List (Int × Int))) : Prop := ∀ w, Calls Tryd.prog 26 #[.string s] w fun e w' => ∃ v, e = .returned (.tuple #[v, .bool true]) ∧ OwnR w' w.heap.size v l ∧ Gr w w'
theorem store_fresh (W : World) {A : Array Value} (h : A.size = 18) (h1 : A.all (·.oneCell') = true) : (Instr.storeAt 49 (.pointer (some ⟨W.heap.size, 0, none⟩)) (.agg A)).run Tryd.prog (W.alloc (.cells (List.replicate 18 (.int .i32 0)).toArray 49)) = .ok () (W.alloc (.cells A 49)) :=
  run_storeAt_new (P := Tryd.prog) W 49 _ A (by rw [infoRow, h]) (by rw [h]; rfl) h1
set_option maxRecDepth 100000 in
set_option maxHeartbeats 1000000 in
theorem is_p {s : ByteArray} {l : List (List (Int × Int))} (hrows : RowsAt s l) (h9 : ∀ r ∈ l, r.length = 9) (hne : l ≠ []) (hl6 : l.length ≤ 6) (c : Int) (w : World) :
    Calls Tryd.prog 10 #[.int .i64 c, .string s] w fun e w' => e = .returned (.tuple #[.bool (isCh c && hasR l c), .int .i64 (if isCh c = true then 0 else 1)]) ∧ Gr w w' := by
  have HRW := Lib.hid hrows
  have HI := Lib.hid (fun w => isNo_p c w)
  have H9 := Lib.hid h9
  have HN := Lib.hid hne
  clear hrows h9 hne
  by_cases hch : isCh c = true
  · rw [hch] at HI ⊢
    have hc0 : 0 ≤ c := by simp [isCh] at hch; omega
    have hc1 : c ≤ 1114111 := by simp [isCh] at hch; omega
    clear hch
    have HR : Hid (hasR l c = hasR (l.drop 0) c) := Lib.hid rfl
    generalize hasR l c = R at *
    go_enter Tryd.func10, Tryd.ntmps10
    go_wp2_with fail
    refine (HRW.out _).mono ?_
    rintro e w1 ⟨v, rfl, hr1, hg1⟩
    obtain ⟨g, cap, rfl, hgb, hglt, hload⟩ := OwnR.load hr1 H9.out HN.out
    have HL := Lib.hid hload
    have Hg1 := Lib.hid hg1
    clear hr1 hg1 hload HRW
    go_wp2_with fail
    refine (HI.out _).mono ?_
    rintro e w2 ⟨rfl, rfl⟩
    clear HI
    go_wp2_with fail
    go_loopw [9, 21] (fun _ sc wr => ∃ n : Nat, sc = .int .i64 (n : Int) ∧ n ≤ l.length ∧ Gr w1 wr ∧ Hid (R = hasR (l.drop n) c)) (fun _ sc _ => leftN l.length sc)
    case atStart => exact ⟨0, rfl, by omega, Gr.refl w1, HR⟩
    case round =>
      obtain ⟨n, rfl, hn, hg, hR⟩ := hrel
      clear HR
      have Hg := Lib.hid hg
      clear hg
      by_cases hc : n < l.length
      · have hR2 : Hid (R = (hasB l[n] c || hasR (l.drop (n + 1)) c)) := Lib.hid (by rw [hR.out, hasR_step hc])
        have hld := Lib.hid (HL.out wr (Hg.out.block _ hglt) n hc)
        have h9n := H9.out l[n] (List.getElem_mem hc)
        have HH := Lib.hid (fun w => has_p h9n c w)
        obtain ⟨A, hA, hA2, _, hA4⟩ := rowA_facts h9n
        rw [hA] at hld HH
        have HA2 := Lib.hid hA2
        have HA4 := Lib.hid hA4
        generalize l[n] = p at *
        generalize hasB p c = b at *
        have hc' : (n : Int) < (l.length : Int) := by omega
        clear hR HL hA hA2 hA4 h9n HN H9
        go_wp2_with (first | (refine wpList_load_row rfl (.tmp 23) rfl rfl hld.out ?_) | (refine wpList_store_row rfl (.tmp 9) (.tmp 24) rfl rfl rfl (store_fresh _ HA2.out HA4.out) ?_) | (refine wpList_load_row rfl (.tmp 9) rfl rfl (run_load_row _ HA2.out) ?_))
        refine (HH.out _).mono ?_
        rintro e w3 ⟨rfl, g3⟩
        have Hg3 := Lib.hid (Gr.trans (Hg.out.alloc _) g3)
        clear g3 hld HH Hg
        cases b
        · have E : Hid (R = hasR (l.drop (n + 1)) c) := Lib.hid (by rw [hR2.out, Bool.false_or])
          clear hR2
          go_wp2
          go_roundw
          case rel => exact ⟨n + 1, rfl, by omega, Hg3.out, E⟩
          case measure => simp only [leftN]; omega
        · have E : Hid (R = true) := Lib.hid (by rw [hR2.out, Bool.true_or])
          clear hR2
          go_wp2
          go_ret2
          exact ⟨by rw [E.out]; rfl, Gr.trans Hg1.out Hg3.out⟩
      · have hc' : ¬ (n : Int) < (l.length : Int) := by omega
        have E : Hid (R = false) := Lib.hid (by rw [hR.out, List.drop_eq_nil_of_le (by omega)]; rfl)
        clear hR
        go_wp2
        go_ret2
        exact ⟨by rw [E.out]; rfl, Gr.trans Hg1.out Hg.out⟩
  · rw [show isCh c = false by simpa using hch] at HI ⊢
    go_enter Tryd.func10, Tryd.ntmps10
    go_wp2_with fail
    refine (HRW.out _).mono ?_
    rintro e w1 ⟨v, rfl, hr1, hg1⟩
    go_wp2_with fail
    refine (HI.out _).mono ?_
    rintro e w2 ⟨rfl, rfl⟩
    go_wp2
    go_ret2
    exact ⟨by simp, hg1⟩
theorem is_pn {s : ByteArray} (h : NoCl s) (c : Int) (w : World) : Calls Tryd.prog 10 #[.int .i64 c, .string s] w fun e w' => e = .returned (.tuple #[.bool false, .int .i64 4]) ∧ Gr w w' := by
  have HC := Lib.hid (fun w => rows_pn h w)
  clear h
  go_enter Tryd.func10, Tryd.ntmps10
  go_wp2_with fail
  refine (HC.out _).mono ?_
  rintro e w1 ⟨rfl, g1⟩
  go_wp2
  go_ret2
  exact ⟨rfl, g1⟩
end Go.Proofs.YtiohoiebnpdkbaaDoor
