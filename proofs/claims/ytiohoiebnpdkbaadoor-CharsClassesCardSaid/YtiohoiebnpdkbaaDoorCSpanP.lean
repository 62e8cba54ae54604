/- The spans of a class. -/
import Derived.Test.YtiohoiebnpdkbaaDoorCJoin
namespace Go.Proofs.YtiohoiebnpdkbaaDoor
open Go.RowKit Go.Shelf
def allNz (l : List (List (Int × Int))) : List (Int × Int) := l.flatMap nzL
theorem allNz_step {l : List (List (Int × Int))} {n : Nat} (h : n < l.length) : allNz (l.drop n) = nzL l[n] ++ allNz (l.drop (n + 1)) := by
  unfold allNz
  rw [List.drop_eq_getElem_cons h, List.flatMap_cons]
theorem nzL_len (l : List (Int × Int)) : (nzL l).length ≤ l.length := List.length_filter_le _ _
set_option maxRecDepth 100000 in
set_option maxHeartbeats 1000000 in
theorem spans_p {s : ByteArray} {l : List (List (Int × Int))} {L : List (Int × Int)} (hrows : RowsAt s l) (h9 : ∀ r ∈ l, r.length = 9) (hb : ∀ r ∈ l, ∀ p ∈ r, 0 ≤ p.1 ∧ p.1 ≤ p.2 ∧ p.2 ≤ 1114111) (hne : l ≠ []) (hl6 : l.length ≤ 6)
    (hnz : allNz l ≠ []) (hL : L.Perm (allNz l)) (hLs : L.Pairwise (fun a b => a.1 ≤ b.1)) (hi : ∀ a ∈ L, ∀ b ∈ L, a.1 = b.1 → a = b) (hlen : (allNz l).length < 1000) (hLb : ∀ p ∈ L, 0 ≤ p.1 ∧ p.1 ≤ 1114111 ∧ 0 ≤ p.2 ∧ p.2 ≤ 1114111) (w : World) :
    Calls Tryd.prog 11 #[.string s] w (SpPost (joinL L) w) := by
  have HRW := Lib.hid hrows
  have H9 := Lib.hid h9
  have HN := Lib.hid hne
  have HB := Lib.hid hb
  have hLne : L ≠ [] := fun h => hnz (by rw [h] at hL; exact hL.symm.eq_nil)
  have HS := Lib.hid (fun (w0 w : World) (v : Value) (h : OwnS w w0.heap.size v (allNz l)) (hg : Gr w0 w) => sort_p h hg hnz hL hLs hi hlen)
  have HJ := Lib.hid (fun (w0 w : World) (v : Value) (h : OwnS w w0.heap.size v L) => joined_p h hLne hLb (by rw [hL.length_eq]; exact hlen))
  have HR : Hid (allNz l = allNz (l.drop 0)) := Lib.hid rfl
  have HR2 : Hid (allNz l = [] ++ allNz (l.drop 0)) := Lib.hid rfl
  generalize allNz l = R at *
  generalize joinL L = J at *
  clear hrows h9 hne hb hnz hL hLs hi hlen hLb hLne HR
  go_enter Tryd.func11, Tryd.ntmps11
  go_wp2_with fail
  refine (HRW.out _).mono ?_
  rintro e w1 ⟨v, rfl, hr1, hg1⟩
  obtain ⟨g, cap, rfl, hgb, hglt, hload⟩ := OwnR.load hr1 H9.out HN.out
  have HL := Lib.hid hload
  have Hg1 := Lib.hid hg1
  clear hr1 hg1 hload HRW
  go_wp2_with fail
  go_loopw [6, 8, 18] (fun v _ sc wr => ∃ (n : Nat) (o : List (Int × Int)), sc = .int .i64 (n : Int) ∧ n ≤ l.length ∧ o.length ≤ 9 * n ∧ OwnS wr w1.heap.size v o ∧ Gr w1 wr ∧ Hid (R = o ++ allNz (l.drop n))) (fun _ _ sc _ => leftN l.length sc)
  case atStart => exact ⟨0, [], rfl, by omega, by simp, World.ownsRow_nil _ _ _ _, Gr.refl w1, HR2⟩
  case round =>
    obtain ⟨n, o, rfl, hn, hlo, hown, hg, hR⟩ := hrel
    clear HR2
    have Hg := Lib.hid hg
    have Hown := Lib.hid hown
    clear hg hown
    by_cases hc : n < l.length
    · have hR2 : Hid (R = (o ++ nzL l[n]) ++ allNz (l.drop (n + 1))) := Lib.hid (by rw [hR.out, allNz_step hc, List.append_assoc])
      have hld := Lib.hid (HL.out wr (Hg.out.block _ hglt) n hc)
      have h9n := H9.out l[n] (List.getElem_mem hc)
      have hbn := HB.out l[n] (List.getElem_mem hc)
      have HH := Lib.hid (fun (W : World) (v : Value) (hO : OwnS W w1.heap.size v o) (hG : Gr w1 W) => append_p h9n hbn (by omega) hO hG)
      have hnl := nzL_len l[n]
      obtain ⟨A, hA, hA2, _, hA4⟩ := rowA_facts h9n
      rw [hA] at hld HH
      rw [h9n] at hnl
      have HA2 := Lib.hid hA2
      have HA4 := Lib.hid hA4
      generalize l[n] = p at *
      generalize nzL p = z at *
      have hc' : (n : Int) < (l.length : Int) := by omega
      clear hR HL hA hA2 hA4 h9n HN H9 HB hbn HS HJ
      obtain ⟨ao, cap', rfl⟩ := ownsRow_shape Hown.out
      go_wp2_with (first | (refine wpList_load_row rfl (.tmp 20) rfl rfl hld.out ?_) | (refine wpList_store_row rfl (.tmp 8) (.tmp 21) rfl rfl rfl (store_fresh _ HA2.out HA4.out) ?_) | (refine wpList_load_row rfl (.tmp 8) rfl rfl (run_load_row _ HA2.out) ?_))
      refine (HH.out _ _ (Hown.out.alloc _) (Hg.out.alloc _)).mono ?_
      rintro e w3 ⟨v3, rfl, hown3, g3⟩
      have Hown3 := Lib.hid hown3
      have Hg3 := Lib.hid g3
      clear hown3 g3 hld HH Hg Hown
      go_wp2
      go_roundw
      case rel => exact ⟨n + 1, o ++ z, rfl, by omega, by simp; omega, Hown3.out, Hg3.out, hR2⟩
      case measure => simp only [leftN]; omega
    · have hc' : ¬ (n : Int) < (l.length : Int) := by omega
      have E : Hid (R = o) := Lib.hid (by rw [hR.out, List.drop_eq_nil_of_le (by omega)]; simp [allNz])
      rw [← E.out] at Hown
      clear hR HB HL E hlo
      have Hsz := Lib.hid (Nat.le_trans Hg1.out.size Hg.out.size)
      go_wp2_with fail
      refine (HS.out _ _ _ Hown.out Hg.out).mono ?_
      rintro e w3 ⟨rfl, hown3, g3⟩
      have Hown3 := Lib.hid hown3
      have Hg3 := Lib.hid g3
      clear hown3 g3 HS Hown Hg
      go_wp2_with fail
      refine (HJ.out _ _ _ Hown3.out).mono ?_
      rintro e w4 ⟨v4, rfl, hown4, g4⟩
      have Hown4 := Lib.hid hown4
      have Hg4 := Lib.hid g4
      clear hown4 g4 HJ Hown3
      go_wp2
      go_ret2
      exact ⟨_, rfl, ownsRow_mono Hown4.out (Nat.le_trans Hg1.out.size Hg3.out.size), Gr.trans Hg1.out (Gr.trans Hg3.out Hg4.out)⟩
theorem spans_pn {s : ByteArray} (h : NoCl s) (w : World) : Calls Tryd.prog 11 #[.string s] w fun e w' => e = .returned (.tuple #[.slice none 0 0, .int .i64 4]) ∧ Gr w w' := by
  have HC := Lib.hid (fun w => rows_pn h w)
  clear h
  go_enter Tryd.func11, Tryd.ntmps11
  go_wp2_with fail
  refine (HC.out _).mono ?_
  rintro e w1 ⟨rfl, g1⟩
  go_wp2
  go_ret2
  exact ⟨rfl, g1⟩
end Go.Proofs.YtiohoiebnpdkbaaDoor
