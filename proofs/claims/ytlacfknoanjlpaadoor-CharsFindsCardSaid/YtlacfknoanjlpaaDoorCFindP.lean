/- The program's Index and Last; the law on places. -/
import Derived.Test.YtlacfknoanjlpaaDoorCStand
import Derived.Test.YtlacfknoanjlpaaDoorCKnow
import Derived.Test.YtlacfknoanjlpaaDoorCShelf4
namespace Go.Proofs.YtlacfknoanjlpaaDoor
open Go.RowKit Go.Shelf
def MaxL (w : World) : Prop := ∃ m, w.cell? ⟨2, 0, none⟩ = some (.int .i64 m)
theorem MaxL.gr {w w' : World} (h : MaxL w) (hg : Gr w w') : MaxL w' := by
  obtain ⟨m, hm⟩ := h
  exact ⟨m, cell_gr hg hm⟩
theorem index_any (s t : ByteArray) (hs : s.size ≤ 140000) (w : World) (hM : MaxL w) : Calls Tryd.prog 83 #[.string s, .string t] w fun e w' => e = .returned (.int .i64 (Lib.index s.data.toList t.data.toList)) ∧ w = w' := by
  obtain ⟨m, hm⟩ := hM
  exact (Any.strings_Index Tryd.lays143 s t m w (by omega) hm).mono fun _ _ ⟨he, h⟩ => ⟨he, h.symm⟩
theorem lastIndex_any (s t : ByteArray) (hs : s.size ≤ 140000) (w : World) : Calls Tryd.prog 84 #[.string s, .string t] w fun e w' => e = .returned (.int .i64 (Lib.lastIndex s.data.toList t.data.toList)) ∧ w = w' :=
  (Any.strings_LastIndex Tryd.lays148 s t (by omega) w).mono fun _ _ ⟨he, h⟩ => ⟨he, h.symm⟩
theorem takeE (s : ByteArray) (k : Nat) : (s.extract 0 k).data.toList = s.data.toList.take k := by simp
theorem off_same {l : List UInt8} (h : writeL (runesL l) = l) (f : Int) : offB l (max f 0).toNat = offB l (k0I (runesL l).length f) := by
  by_cases hk : max f 0 ≤ ((runesL l).length : Int)
  · congr 1; unfold k0I; omega
  · rw [offB_all h (by omega), offB_all h (by unfold k0I; omega)]
/-- a beginning of a valid text, up to a place -/
theorem count_at (s : ByteArray) (hs : s.size ≤ 4096) (hv : (validL s.data.toList).2 = true) (k : Nat) (hk : k ≤ (runesL s.data.toList).length) (w : World) :
    Calls Tryd.prog 80 #[.string (s.extract 0 (offB s.data.toList k))] w fun e w' => e = .returned (.int .i64 (k : Int)) ∧ Gr w w' := by
  have hw := write_runes _ hv
  have hd : (s.extract 0 (offB s.data.toList k)).data.toList = writeL ((runesL s.data.toList).take k) := by rw [takeE, offB_take hw]
  have ha := all_take (runes_ch s.data.toList) k
  have hsz : (s.extract 0 (offB s.data.toList k)).size ≤ 4096 := by
    rw [← sizeL, takeE, List.length_take, sizeL]; omega
  have := countV (s.extract 0 (offB s.data.toList k)) hsz (by rw [hd]; exact valid_write ha) w
  rw [hd, (runes_write _ ha).1, List.length_take, Nat.min_eq_left hk] at this
  exact this
set_option maxRecDepth 100000 in
set_option maxHeartbeats 800000 in
theorem index_p (s t : ByteArray) (f : Int) (hf : f ≤ 9223372036854775807) (w : World) (hM : MaxL w) : Calls Tryd.prog 39 #[.string s, .string t, .int .i64 f] w (IntQ (fndT s.data.toList t.data.toList f) w) := by
  have HC := Lib.hid (check2 s t w _ 9 (0, 0) rfl)
  by_cases h : chk2 s.data.toList t.data.toList = 0
  · have he : chkE s.data.toList = 0 ∧ chkE t.data.toList = 0 := by
      unfold chk2 at h
      by_cases h1 : chkE s.data.toList = 0
      · rw [if_pos h1] at h; exact ⟨h1, h⟩
      · rw [if_neg h1] at h; exact absurd h h1
    obtain ⟨s1, s2⟩ := chkE_zero he.1
    obtain ⟨t1, t2⟩ := chkE_zero he.2
    rw [sizeL] at s1 t1
    have hw := write_runes _ s2
    have hwt := write_runes _ t2
    have HE := Lib.hid (fndT_ok (f := f) h)
    have HO := Lib.hid (fun w => offset_p s s2 (max f 0) (by omega) (by omega) w)
    rw [off_same hw] at HO
    have hK : k0I (runesL s.data.toList).length f ≤ (runesL s.data.toList).length := by unfold k0I; omega
    have HN := Lib.hid (fun k hk w => count_at s s1 s2 k hk w)
    have hle := offB_le hw (k0I (runesL s.data.toList).length f)
    rw [sizeL] at hle
    have HX := Lib.hid (fun w (h : MaxL w) => index_any (s.extract (offB s.data.toList (k0I (runesL s.data.toList).length f)) s.size) t (by rw [← sizeL, dropE, List.length_drop, sizeL]; omega) w h)
    rw [dropE, offB_drop hw, ← hwt] at HX
    have hsp := index_chars (runes_ch t.data.toList) (all_drop (runes_ch s.data.toList) (k0I (runesL s.data.toList).length f))
    have hoff : ∀ k, offB s.data.toList (k0I (runesL s.data.toList).length f) + (writeL (((runesL s.data.toList).drop (k0I (runesL s.data.toList).length f)).take k)).length = offB s.data.toList (k0I (runesL s.data.toList).length f + k) := by
      intro k
      unfold offB
      rw [← List.length_append, ← writeL_app]
      congr 2
      rw [List.take_add]
    have hle2 : ∀ k, offB s.data.toList k ≤ s.size := fun k => by have := offB_le hw k; rw [sizeL] at this; exact this
    rw [h] at HC
    have HM := Lib.hid hM
    clear h he s2 t2 hw hwt hM
    generalize k0I (runesL s.data.toList).length f = K at *
    generalize hI : Lib.index (writeL ((runesL s.data.toList).drop K)) (writeL (runesL t.data.toList)) = I at *
    clear hI
    rcases hsp with ⟨rfl, h2⟩ | ⟨k, k1, k2, k3, k4⟩
    · have hr : fstL (runesL t.data.toList) (runesL s.data.toList) ((runesL s.data.toList).length + 1 - K) K = -1 := fstL_none _ _ (fun j j1 j2 => by
        have := h2 (j - K) (by rw [List.length_drop]; omega)
        rw [List.drop_drop, show K + (j - K) = j by omega] at this; exact this)
      rw [hr] at HE
      clear hr h2 hoff hle2 HN
      generalize offB s.data.toList K = a at *
      generalize runesL s.data.toList = cs at *
      go_enter Tryd.func39, Tryd.ntmps39
      go_wp2_with fail
      refine HC.out.mono ?_
      rintro e w1 ⟨rfl, g1⟩
      go_wp2_with fail
      refine (HO.out _).mono ?_
      rintro e w2 ⟨rfl, g2⟩
      have G := Lib.hid (Gr.trans g1 g2)
      have hML := Lib.hid (HM.out.gr G.out)
      go_wp2_with fail
      refine (HX.out _ hML.out).mono ?_
      rintro e w3 ⟨rfl, rfl⟩
      go_wp2
      go_ret2
      exact ⟨by rw [HE.out]; rfl, G.out⟩
    · rw [List.length_drop] at k1
      have hr : fstL (runesL t.data.toList) (runesL s.data.toList) ((runesL s.data.toList).length + 1 - K) K = ((K + k : Nat) : Int) := fstL_some (by rw [List.drop_drop] at k3; exact k3) _ _ (by omega) (by omega) (fun j j1 j2 => by
        have := k4 (j - K) (by omega)
        rw [List.drop_drop, show K + (j - K) = j by omega] at this; exact this)
      rw [hr] at HE
      have hN2 := HN.out (K + k) (by omega)
      have ho2 := hoff k
      have hb2 := hle2 (K + k)
      rw [← ho2] at hN2 hb2
      have HN2 := Lib.hid hN2
      clear hr k3 k4 hoff hle2 HN hN2 ho2
      generalize offB s.data.toList K = a at *
      generalize (writeL (((runesL s.data.toList).drop K).take k)).length = i at *
      subst k2
      generalize runesL s.data.toList = cs at *
      go_enter Tryd.func39, Tryd.ntmps39
      go_wp2_with fail
      refine HC.out.mono ?_
      rintro e w1 ⟨rfl, g1⟩
      go_wp2_with fail
      refine (HO.out _).mono ?_
      rintro e w2 ⟨rfl, g2⟩
      have G := Lib.hid (Gr.trans g1 g2)
      have hML := Lib.hid (HM.out.gr G.out)
      go_wp2_with fail
      refine (HX.out _ hML.out).mono ?_
      rintro e w3 ⟨rfl, rfl⟩
      go_wp2_with fail
      refine (HN2.out _).mono ?_
      rintro e w4 ⟨rfl, g4⟩
      go_wp2
      go_ret2
      exact ⟨by rw [HE.out]; rfl, Gr.trans G.out g4⟩
  · have HE := Lib.hid (fndT_no (f := f) h)
    have hb : (chk2 s.data.toList t.data.toList == 0) = false := beq_eq_false_iff_ne.2 h
    clear h
    generalize chk2 s.data.toList t.data.toList = E at *
    go_enter Tryd.func39, Tryd.ntmps39
    go_wp2_with fail
    refine HC.out.mono ?_
    rintro e w1 ⟨rfl, g1⟩
    go_wp2
    go_ret2
    exact ⟨by rw [HE.out]; rfl, g1⟩
set_option maxRecDepth 100000 in
set_option maxHeartbeats 800000 in
theorem last_p (s t : ByteArray) (f : Int) (hf : f ≤ 9223372036854775807) (w : World) : Calls Tryd.prog 40 #[.string s, .string t, .int .i64 f] w (IntQ (lasT s.data.toList t.data.toList f) w) := by
  have HC := Lib.hid (check2 s t w _ 9 (0, 0) rfl)
  by_cases h : chk2 s.data.toList t.data.toList = 0
  · have he : chkE s.data.toList = 0 ∧ chkE t.data.toList = 0 := by
      unfold chk2 at h
      by_cases h1 : chkE s.data.toList = 0
      · rw [if_pos h1] at h; exact ⟨h1, h⟩
      · rw [if_neg h1] at h; exact absurd h h1
    obtain ⟨s1, s2⟩ := chkE_zero he.1
    obtain ⟨t1, t2⟩ := chkE_zero he.2
    rw [sizeL] at s1 t1
    have HE := Lib.hid (lasT_ok (f := f) h)
    rw [h] at HC
    by_cases hn : f < 0
    · rw [if_pos hn] at HE
      clear h he s2 t2
      go_enter Tryd.func40, Tryd.ntmps40
      go_wp2_with fail
      refine HC.out.mono ?_
      rintro e w1 ⟨rfl, g1⟩
      go_wp2
      go_ret2
      exact ⟨by rw [HE.out]; rfl, g1⟩
    · rw [if_neg hn] at HE
      have hw := write_runes _ s2
      have hwt := write_runes _ t2
      have HO := Lib.hid (fun w => offset_p s s2 f (by omega) hf w)
      have hmf : max f 0 = f := by omega
      have hos := off_same hw f
      rw [hmf] at hos
      rw [hos] at HO
      have hK : k0I (runesL s.data.toList).length f ≤ (runesL s.data.toList).length := by unfold k0I; omega
      have HN := Lib.hid (fun k hk w => count_at s s1 s2 k hk w)
      have hle := offB_le hw (k0I (runesL s.data.toList).length f)
      rw [sizeL] at hle
      have hle2 : ∀ k, offB s.data.toList k ≤ s.size := fun k => by have := offB_le hw k; rw [sizeL] at this; exact this
      have hsp := last_chars (runes_ch t.data.toList) (runes_ch s.data.toList) hK
      rw [hw, hwt] at hsp
      have hfold : ∀ k, (writeL ((runesL s.data.toList).take k)).length = offB s.data.toList k := fun k => rfl
      simp only [hfold] at hsp
      rw [sizeL, sizeL] at hsp
      clear hmf hos hfold h he s2 t2 hw hwt
      generalize k0I (runesL s.data.toList).length f = K at *
      generalize hE : min (offB s.data.toList K + t.size) s.size = E at *
      have HM : Hid (min ((offB s.data.toList K : Int) + (t.size : Int)) (s.size : Int) = (E : Int)) := Lib.hid (by
        rcases Nat.le_total (offB s.data.toList K + t.size) s.size with c | c
        · rw [Nat.min_eq_left c] at hE; rw [Int.min_eq_left (by omega)]; omega
        · rw [Nat.min_eq_right c] at hE; rw [Int.min_eq_right (by omega)]; omega)
      have hEs : E ≤ s.size := by omega
      have HX := Lib.hid (fun w => lastIndex_any (s.extract 0 E) t (by rw [← sizeL, takeE, List.length_take, sizeL]; omega) w)
      rw [takeE] at HX
      generalize hI : Lib.lastIndex (s.data.toList.take E) t.data.toList = I at *
      clear hI hE
      rcases hsp with ⟨rfl, h2⟩ | ⟨k, k1, k2, k3, k4⟩
      · rw [lstL_none K h2] at HE
        clear h2 hle2 HN
        generalize offB s.data.toList K = a at *
        go_enter Tryd.func40, Tryd.ntmps40
        go_wp2_with fail
        refine HC.out.mono ?_
        rintro e w1 ⟨rfl, g1⟩
        go_wp2_with fail
        refine (HO.out _).mono ?_
        rintro e w2 ⟨rfl, g2⟩
        go_wp2_with fail
        rw [HM.out, Int.toNat_natCast]
        refine (HX.out _).mono ?_
        rintro e w3 ⟨rfl, rfl⟩
        go_wp2
        go_ret2
        exact ⟨by rw [HE.out]; rfl, Gr.trans g1 g2⟩
      · rw [lstL_some k3 K k1 k4] at HE
        have HN2 := Lib.hid (HN.out k (by omega))
        have hb2 := hle2 k
        clear k3 k4 hle2 HN
        subst k2
        generalize offB s.data.toList K = a at *
        generalize offB s.data.toList k = i at *
        go_enter Tryd.func40, Tryd.ntmps40
        go_wp2_with fail
        refine HC.out.mono ?_
        rintro e w1 ⟨rfl, g1⟩
        go_wp2_with fail
        refine (HO.out _).mono ?_
        rintro e w2 ⟨rfl, g2⟩
        go_wp2_with fail
        rw [HM.out, Int.toNat_natCast]
        refine (HX.out _).mono ?_
        rintro e w3 ⟨rfl, rfl⟩
        go_wp2_with fail
        refine (HN2.out _).mono ?_
        rintro e w4 ⟨rfl, g4⟩
        go_wp2
        go_ret2
        exact ⟨by rw [HE.out]; rfl, Gr.trans (Gr.trans g1 g2) g4⟩
  · have HE := Lib.hid (lasT_no (f := f) h)
    have hb : (chk2 s.data.toList t.data.toList == 0) = false := beq_eq_false_iff_ne.2 h
    clear h
    generalize chk2 s.data.toList t.data.toList = E at *
    go_enter Tryd.func40, Tryd.ntmps40
    go_wp2_with fail
    refine HC.out.mono ?_
    rintro e w1 ⟨rfl, g1⟩
    go_wp2
    go_ret2
    exact ⟨by rw [HE.out]; rfl, g1⟩
set_option maxRecDepth 100000 in
set_option maxHeartbeats 1000000 in
theorem law_finds (s t : ByteArray) (f : Int) (_hs : s.size ≤ 140737488351232) (_ht : t.size ≤ 140737488351232) (hf : -9223372036854775808 ≤ f ∧ f ≤ 9223372036854775807) (w : World) (hT : Tabs w) (hM : MaxL w) : Calls Tryd.prog 9 #[.string s, .string t, .int .i64 f] w fun e w' => e = .returned (.bool true) ∧ Gr w w' := by
  have HK := Lib.hid (fun w (h : Tabs w) => known_any w h)
  have HT := Lib.hid hT
  have HM := Lib.hid hM
  clear hT hM
  by_cases h1 : 5000 < s.size ∨ 5000 < t.size
  · rcases h1 with h1 | h1
    · go_enter Tryd.func9, Tryd.ntmps9
      go_wp2_with fail
      refine (HK.out _ HT.out).mono ?_
      rintro e w1 ⟨rfl, g1⟩
      go_wp2
      go_ret
      exact ⟨rfl, g1⟩
    · by_cases h2 : 5000 < s.size
      all_goals
        go_enter Tryd.func9, Tryd.ntmps9
        go_wp2_with fail
        refine (HK.out _ HT.out).mono ?_
        rintro e w1 ⟨rfl, g1⟩
        go_wp2
        go_ret
        exact ⟨rfl, g1⟩
  · have k1 : ¬ 5000 < s.size := by omega
    have k2 : ¬ 5000 < t.size := by omega
    clear h1
    have HI := Lib.hid (fun w => index_r s t f (by omega) (by omega) w)
    have HL := Lib.hid (fun w => last_r s t f (by omega) (by omega) hf.1 w)
    have PI := Lib.hid (fun w h => index_p s t f hf.2 w h)
    have PL := Lib.hid (fun w => last_p s t f hf.2 w)
    generalize fndT s.data.toList t.data.toList f = A at *
    generalize lasT s.data.toList t.data.toList f = B at *
    obtain ⟨a1, a2⟩ := A
    obtain ⟨b1, b2⟩ := B
    go_enter Tryd.func9, Tryd.ntmps9
    go_wp2_with fail
    refine (HI.out _).mono ?_
    rintro e w1 ⟨rfl, g1⟩
    go_wp2_with fail
    refine (HL.out _).mono ?_
    rintro e w2 ⟨rfl, g2⟩
    have G := Lib.hid (Gr.trans g1 g2)
    go_wp2_with fail
    refine (PI.out _ (HM.out.gr G.out)).mono ?_
    rintro e w3 ⟨rfl, g3⟩
    go_wp2_with fail
    refine (PL.out _).mono ?_
    rintro e w4 ⟨rfl, g4⟩
    have G := Lib.hid (Gr.trans G.out (Gr.trans g3 g4))
    go_wp2_with fail
    refine (HK.out _ (HT.out.gr G.out)).mono ?_
    rintro e w5 ⟨rfl, g5⟩
    go_wp2
    go_ret
    exact ⟨by simp, Gr.trans G.out g5⟩
end Go.Proofs.YtlacfknoanjlpaaDoor
