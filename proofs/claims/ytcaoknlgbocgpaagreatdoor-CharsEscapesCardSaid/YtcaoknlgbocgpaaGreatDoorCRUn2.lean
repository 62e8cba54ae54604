/- The reference's Unescape, whole. -/
import Derived.Test.YtcaoknlgbocgpaaGreatDoorCRUns
namespace Go.Proofs.YtcaoknlgbocgpaaGreatDoor
open Go.RowKit Go.Shelf
theorem braced_facts (l : List UInt8) : (braced l).2 = 0 ∨ (4 ≤ (braced l).2 ∧ (braced l).2 ≤ l.length ∧ isCh (braced l).1 = true) := by
  unfold braced
  by_cases a : l.take 2 = [120, 123]
  · rw [if_pos a]
    by_cases b : (hexRun 6 (l.drop 2) 0).2 = 0
    · rw [if_pos b]; exact .inl rfl
    · rw [if_neg b]
      by_cases c : (l.drop (2 + (hexRun 6 (l.drop 2) 0).2)).head? = some 125 ∧ isCh (hexRun 6 (l.drop 2) 0).1 = true
      · rw [if_pos c]
        right
        have : (l.drop (2 + (hexRun 6 (l.drop 2) 0).2)) ≠ [] := by
          intro e; rw [e] at c; exact absurd c.1 (by simp)
        rw [ne_eq, List.drop_eq_nil_iff] at this
        refine ⟨?_, ?_, c.2⟩
        · show 4 ≤ _ + 3; omega
        · show _ + 3 ≤ _; omega
      · rw [if_neg c]; exact .inl rfl
  · rw [if_neg a]; exact .inl rfl
theorem cells1 (acc : List UInt8) (x : UInt8) : Lib.byteCells (acc ++ [x]) = Lib.byteCells acc ++ [.int .u8 (x.toNat : Int)] := by
  rw [Lib.byteCells_append]; rfl
theorem infoB : (Tryz.prog.info? 5).map (fun i => (i.zero, i.size, i.bytes)) = some (some (.int .u8 0), 1, 1) := by kernel_rfl
set_option maxRecDepth 100000 in
set_option maxHeartbeats 4000000 in
theorem unescape_r (s : ByteArray) (hs : s.size ≤ 140000) (w : World) : Calls Tryz.prog 8 #[.string s] w (TxtPost (unescT s.data.toList) w) := by
  have HCK := Lib.hid (fun w => checked_r s (by omega) w)
  by_cases h : chkE s.data.toList = 0
  · obtain ⟨h1, _⟩ := chkE_zero h
    have HOK := Lib.hid (fun r hu => unescT_ok (l := s.data.toList) (r := r) h hu)
    have HBAD := Lib.hid (fun hu => unescT_bad (l := s.data.toList) h hu)
    have HLEN : Hid (∀ r, unescL s.data.toList = some r → r.length ≤ 4096) := Lib.hid (fun r hr => Nat.le_trans (unesc_len _ _ _ (Nat.le_refl _) hr) h1)
    rw [sizeL] at h1
    rw [h] at HCK
    have HR : Hid (∃ U, U = unescL s.data.toList ∧ U = (unescL (s.data.toList.drop 0)).map ([] ++ ·)) := Lib.hid ⟨_, rfl, by rw [List.drop_zero]; cases unescL s.data.toList <;> rfl⟩
    clear h
    generalize unescT s.data.toList = A at *
    obtain ⟨U, hU, hU2⟩ := HR.out
    rw [← hU] at HOK HBAD HLEN
    have HR0 := Lib.hid hU2
    clear HR hU hU2
    obtain ⟨i0, hi, hz0, hz1, hz2⟩ := info_parts infoB
    go_enter Tryz.func8, Tryz.ntmps8
    go_wp2_with (go_at_call 22; refine (HCK.out _).mono ?_; rintro e w3 ⟨rfl, rfl⟩)
    go_loopw [5, 6] (fun v iv wr => ∃ (i : Nat) (acc : List UInt8), i ≤ s.size ∧ iv = .int .i64 i ∧ OwnB wr w.heap.size v acc ∧ Gr w wr ∧ acc.length ≤ 4 * i ∧ Hid (U = (unescL (s.data.toList.drop i)).map (acc ++ ·))) (fun _ iv _ => s.size - (intOf iv).toNat)
    case atStart => exact ⟨0, [], Nat.zero_le _, rfl, World.ownsRowF_nil _ _ _ _, Gr.refl w, by decide, HR0⟩
    case round =>
      obtain ⟨i, acc, hi', rfl, hown, hg, hal, HU⟩ := hrel
      clear HR0
      have Hown := Lib.hid hown
      obtain ⟨vo, vcap, rfl⟩ := hown.shape
      have Hg := Lib.hid hg
      have Hw := Lib.hid (Gr.size hg)
      have hback := hown.back
      clear hown hg
      by_cases hlt : i < s.size
      · have hdrop := drop_at s i hlt
        clear hback
        by_cases h92 : s[i] = 92
        · have hc : (s[i].toNat : Int) = 92 := by rw [h92]; rfl
          rw [h92] at hdrop
          by_cases hn : i + 1 < s.size ∧ s.data.toList[i + 1]? = some 92
          · obtain ⟨hlt2, hnx⟩ := hn
            have hx2 : s[i + 1] = 92 := by have := getL s (i + 1) hlt2; rw [hnx] at this; exact (Option.some.inj this).symm
            have hc2 : (s[i + 1].toNat : Int) = 92 := by rw [hx2]; rfl
            have HU2 : Hid (U = (unescL (s.data.toList.drop (i + 1 + 1))).map ((acc ++ [92]) ++ ·)) := Lib.hid (by
              rw [HU.out, hdrop, drop_at s (i + 1) hlt2, hx2, unescL_two]
              cases hq : unescL (s.data.toList.drop (i + 1 + 1)) with
              | none => simp
              | some q => simp)
            clear hdrop h92 hx2 hnx HU
            go_wp2_with (at_builtin; refine wpList_append_ownF _ rfl (.tmp 42) (.tmp 43) 39 rfl w.heap.size 5 i0 (.int .u8 0) 1 1 Tryz.underlying39 hi hz0 hz1 hz2 rfl (by decide) _ _ _ rfl (Hown.out.alloc _) ⟨wr.heap.size, 0, none⟩ 1 1 [.int .u8 92] rfl rfl ?c1 ?c2 ?c3 ?c4 ?c5 ?_)
            case c1 =>
              intro j u hj
              match j, hj with
              | 0, hj => simp at hj; subst hj; simp [Addr.add]
            case c2 => intro u hu; simp at hu; subst hu; rfl
            case c3 => unfold maxLen; omega
            case c4 => omega
            case c5 => have := Hw.out; simp; omega
            intro v' w1 hown' hgrow _
            have Hown' : Hid (OwnB w1 w.heap.size v' (acc ++ [92])) := Lib.hid (by
              show World.ownsRowF _ _ _ _ _ (acc ++ [92]).length (Lib.byteCells (acc ++ [92]))
              rw [List.length_append, cells1]; exact hown')
            have hg1 : Hid (Gr w w1) := Lib.hid (Below.grown (Gr.alloc Hg.out _) hgrow (Nat.le_trans Hw.out (by simp)) (fun k hk => Hown.out.lt k hk))
            clear hown' hgrow
            go_wp2_with fail
            go_roundw
            case rel => exact ⟨i + 1 + 1, acc ++ [92], by omega, by go_num, Hown'.out, hg1.out, by rw [List.length_append]; simp; omega, HU2⟩
            case measure => simp [intOf]; omega
          · have hhd : ¬ (s.data.toList.drop (i + 1)).head? = some 92 := by
              rw [List.head?_drop]
              intro e
              apply hn
              refine ⟨?_, e⟩
              rcases Nat.lt_or_ge (i + 1) s.size with h | h
              · exact h
              · rw [List.getElem?_eq_none (by rw [sizeL]; exact h)] at e; cases e
            have hex : (s.extract (i + 1) s.size).data.toList = s.data.toList.drop (i + 1) := dropE s (i + 1)
            have hes : (s.extract (i + 1) s.size).size ≤ 140000 := by rw [← sizeL, hex, List.length_drop, sizeL]; omega
            have HB := Lib.hid (fun w => braced_r (s.extract (i + 1) s.size) hes w)
            rw [hex] at HB
            have hbf := braced_facts (s.data.toList.drop (i + 1))
            rw [List.length_drop, sizeL] at hbf
            have hno : Hid ((braced (s.data.toList.drop (i + 1))).2 = 0 → U = none) := Lib.hid (fun hb => by
              rw [HU.out, hdrop, unescL_no hhd hb]; rfl)
            have hyes : Hid ((braced (s.data.toList.drop (i + 1))).2 ≠ 0 → U = (unescL (s.data.toList.drop (i + (braced (s.data.toList.drop (i + 1))).2 + 1))).map ((acc ++ oneL (braced (s.data.toList.drop (i + 1))).1) ++ ·)) := Lib.hid (fun hb => by
              rw [HU.out, hdrop, unescL_brace hhd hb, List.drop_drop, show i + 1 + (braced (s.data.toList.drop (i + 1))).2 = i + (braced (s.data.toList.drop (i + 1))).2 + 1 by omega]
              cases hq : unescL (s.data.toList.drop (i + (braced (s.data.toList.drop (i + 1))).2 + 1)) with
              | none => simp
              | some q => simp)
            have hnx : ¬ i + 1 < s.size ∨ ∃ h : i + 1 < s.size, ((s[i + 1].toNat : Int) == 92) = false := by
              rcases Nat.lt_or_ge (i + 1) s.size with h | h
              · refine .inr ⟨h, beq_eq_false_iff_ne.2 (fun e => hn ⟨h, ?_⟩)⟩
                rw [getL s (i + 1) h]
                have e2 : s[i + 1].toNat = 92 := by omega
                have := UInt8.ofNat_toNat (x := s[i + 1])
                rw [e2] at this; rw [← this]; rfl
              · exact .inl (by omega)
            clear hex hdrop h92 hn hhd HU
            generalize (braced (s.data.toList.drop (i + 1))).2 = n at *
            generalize (braced (s.data.toList.drop (i + 1))).1 = c at *
            rcases hbf with hb | ⟨b1, b2, b3⟩
            · have HA : Hid (A = ([], 2)) := Lib.hid (HBAD.out (hno.out hb))
              obtain rfl : n = 0 := hb
              have HB0 : Hid (∀ w, Calls Tryz.prog 27 #[.string (s.extract (i + 1) s.size)] w fun e w' => e = .returned (.tuple #[.int .i64 c, .int .i64 0]) ∧ w = w') := Lib.hid HB.out
              clear hno hyes HB
              rcases hnx with hnx | ⟨hlt2, hnx⟩
              all_goals
                go_wp2_with (go_at_call 27; refine (HB0.out _).mono ?_; rintro e w3 ⟨rfl, rfl⟩)
                go_ret2
                exact ⟨by rw [HA.out]; rfl, Hg.out⟩
            · have HU2 := Lib.hid (hyes.out (by omega))
              have HO := Lib.hid (fun w => one_r c b3 w)
              have hol := (oneL_len c).2
              clear hno hyes
              generalize oneL c = x at *
              have hxs : (⟨x.toArray⟩ : ByteArray).size = x.length := by show x.toArray.size = _; simp
              have Hxs := Lib.hid hxs
              have Hd1 : Hid (acc.length + (⟨x.toArray⟩ : ByteArray).size ≤ maxLen) := Lib.hid (by rw [hxs]; unfold maxLen; omega)
              have Hd2 : Hid (acc.length + (⟨x.toArray⟩ : ByteArray).size ≤ 140737488355328) := Lib.hid (by rw [hxs]; omega)
              have hn0 : ((n : Int) == 0) = false := beq_eq_false_iff_ne.2 (by omega)
              clear hxs
              obtain ⟨hlt2, hnx⟩ := hnx.resolve_left (by omega)
              go_wp2_with (first | (go_at_call 27; refine (HB.out _).mono ?_; rintro e w3 ⟨rfl, rfl⟩) | (go_at_call 25; refine (HO.out _).mono ?_; rintro e w3 ⟨rfl, g3⟩; have Hw3 := Lib.hid (Gr.size (Hg.out.trans g3)); have Hown3 := Lib.hid (OwnB.gr Hown.out g3); have Hg3 := Lib.hid (Gr.trans Hg.out g3)) | (at_builtin; refine Lib.wpList_append_own_stringF _ rfl (.tmp 57) (.tmp 59) 39 9 rfl w.heap.size 5 i0 Tryz.underlying39 Tryz.underlying9 hi hz0 hz1 hz2 _ _ _ rfl Hown3.out ⟨x.toArray⟩ rfl Hd1.out Hd2.out Hw3.out ?_))
              intro v' w1 hown' hgrow _
              have Hown' : Hid (OwnB w1 w.heap.size v' (acc ++ x)) := Lib.hid (by
                show World.ownsRowF _ _ _ _ _ (acc ++ x).length (Lib.byteCells (acc ++ x))
                rw [List.length_append, Lib.byteCells_append, ← Hxs.out]; exact hown')
              have hg1 : Hid (Gr w w1) := Lib.hid (Below.grown Hg3.out hgrow Hw3.out (fun k hk => Hown3.out.lt k hk))
              clear hown' hgrow
              go_wp2_with fail
              go_roundw
              case rel => exact ⟨i + n + 1, acc ++ x, by omega, by go_num, Hown'.out, hg1.out, by rw [List.length_append]; omega, HU2⟩
              case measure => simp [intOf]; omega
        · have hc : ((s[i].toNat : Int) == 92) = false := beq_eq_false_iff_ne.2 (fun e => h92 (by
            have e2 : s[i].toNat = 92 := by omega
            have := UInt8.ofNat_toNat (x := s[i])
            rw [e2] at this; exact this.symm))
          have hc2 : ((s[i].toNat : Int) != 92) = true := by
            show (!((s[i].toNat : Int) == 92)) = true
            rw [hc]; rfl
          have HU2 : Hid (U = (unescL (s.data.toList.drop (i + 1))).map ((acc ++ [s[i]]) ++ ·)) := Lib.hid (by
            rw [HU.out, hdrop, unescL_byte h92]
            cases hq : unescL (s.data.toList.drop (i + 1)) with
            | none => simp
            | some q => simp)
          clear hdrop h92 HU
          go_wp2_with (at_builtin; refine wpList_append_ownF _ rfl (.tmp 24) (.tmp 28) 39 rfl w.heap.size 5 i0 (.int .u8 0) 1 1 Tryz.underlying39 hi hz0 hz1 hz2 rfl (by decide) _ _ _ rfl (Hown.out.alloc _) ⟨wr.heap.size, 0, none⟩ 1 1 [.int .u8 (s[i].toNat : Int)] rfl rfl ?e1 ?e2 ?e3 ?e4 ?e5 ?_)
          case e1 =>
            intro j u hj
            match j, hj with
            | 0, hj => simp at hj; subst hj; simp [Addr.add]
          case e2 => intro u hu; simp at hu; subst hu; rfl
          case e3 => unfold maxLen; omega
          case e4 => omega
          case e5 => have := Hw.out; simp; omega
          intro v' w1 hown' hgrow _
          have Hown' : Hid (OwnB w1 w.heap.size v' (acc ++ [s[i]])) := Lib.hid (by
            show World.ownsRowF _ _ _ _ _ (acc ++ [s[i]]).length (Lib.byteCells (acc ++ [s[i]]))
            rw [List.length_append, cells1]; exact hown')
          have hg1 : Hid (Gr w w1) := Lib.hid (Below.grown (Gr.alloc Hg.out _) hgrow (Nat.le_trans Hw.out (by simp)) (fun k hk => Hown.out.lt k hk))
          clear hown' hgrow
          go_wp2_with fail
          go_roundw
          case rel => exact ⟨i + 1, acc ++ [s[i]], by omega, by go_num, Hown'.out, hg1.out, by rw [List.length_append]; simp; omega, HU2⟩
          case measure => simp [intOf]; omega
      · have hU : U = some acc := by
          rw [HU.out, List.drop_eq_nil_of_le (by rw [sizeL]; omega), unescL_nil]
          show some (acc ++ []) = _
          rw [List.append_nil]
        have HA := Lib.hid (HOK.out _ hU)
        have hl := HLEN.out _ hU
        have HS := Lib.hid (fun w => sized_r ⟨acc.toArray⟩ w)
        rw [show (⟨acc.toArray⟩ : ByteArray).data.toList = acc by simp, show sizE acc = (acc, 0) from if_neg (by omega)] at HS
        clear hU hl HU
        go_wp2_with (go_at_call 26; refine (HS.out _).mono ?_; rintro e w3 ⟨rfl, rfl⟩)
        go_ret2
        exact ⟨by rw [HA.out]; rfl, Hg.out⟩
  · have HE := Lib.hid (unescT_no h)
    have hb : (chkE s.data.toList == 0) = false := beq_eq_false_iff_ne.2 h
    clear h
    generalize chkE s.data.toList = E at *
    go_enter Tryz.func8, Tryz.ntmps8
    go_wp2_with (go_at_call 22; refine (HCK.out _).mono ?_; rintro e w3 ⟨rfl, rfl⟩)
    go_ret2
    exact ⟨by rw [HE.out]; rfl, Gr.refl w⟩
end Go.Proofs.YtcaoknlgbocgpaaGreatDoor
