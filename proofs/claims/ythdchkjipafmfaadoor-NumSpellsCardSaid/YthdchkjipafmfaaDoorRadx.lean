/- Radix on both sides; the walk of NumRadix. -/
import Derived.Test.YthdchkjipafmfaaDoorRadN
import Derived.Test.YthdchkjipafmfaaDoorRadR
namespace Go.Proofs.YthdchkjipafmfaaDoor
open Go.RowKit Go.Shelf

/-- what Radix reads -/
def rad : List UInt8 → Option Int
  | [] => none
  | c :: r => if c = 48 then (match r with
      | [] => scan 8 (c :: r) 0 false
      | d :: t => if d = 120 then scan 16 t 0 false else if d = 98 then scan 2 t 0 false else scan 8 (c :: r) 0 false) else scan 10 (c :: r) 0 false
theorem pre_no {a b : UInt8} {l r : List UInt8} (h : ¬ b = a) : Lib.hasPrefix (b :: r) (a :: l) = false := by
  have h' : (a == b) = false := by simpa using fun e => h e.symm
  unfold Lib.hasPrefix
  rw [List.isPrefixOf, h', Bool.false_and]
theorem pre_yes {a : UInt8} {l r : List UInt8} : Lib.hasPrefix (a :: r) (a :: l) = Lib.hasPrefix r l := by
  unfold Lib.hasPrefix
  rw [List.isPrefixOf, beq_self_eq_true, Bool.true_and]
theorem rad_no {c : UInt8} {r : List UInt8} (h : ¬ c = 48) : rad (c :: r) = scan 10 (c :: r) 0 false := by
  unfold rad
  exact if_neg h
theorem rad_oct {d : UInt8} {t : List UInt8} (hx : ¬ d = 120) (hy : ¬ d = 98) : rad (48 :: d :: t) = scan 8 (48 :: d :: t) 0 false := by
  unfold rad
  exact (if_pos rfl).trans ((if_neg hx).trans (if_neg hy))
theorem scan_lead (t : List UInt8) : scan 8 (48 :: t) 0 false = scan 8 t 0 true := by
  rw [scan_on (.inr rfl) (by decide) (by decide)]; rfl
theorem byte_eq (b : UInt8) (c : UInt8) : ((b.toNat : Int) == (c.toNat : Int)) = decide (b = c) := by
  rw [Bool.eq_iff_iff, beq_iff_eq, decide_eq_true_iff, ← UInt8.toNat_inj]; omega
theorem dropE (s : ByteArray) (k : Nat) : (s.extract k s.size).data.toList = s.data.toList.drop k := by simp [List.take_of_length_le]
/-- the cases of Radix -/
theorem rad_cases (s : ByteArray) :
    (¬ 0 < s.size ∧ none = rad s.data.toList ∧ Lib.hasPrefix s.data.toList [48, 120] = false ∧ Lib.hasPrefix s.data.toList [48, 98] = false ∧ Lib.hasPrefix s.data.toList [48] = false ∧ scan 10 s.data.toList 0 false = rad s.data.toList) ∨
    (∃ _ : 0 < s.size, ((s[0].toNat : Int) != 48) = true ∧ scan 10 s.data.toList 0 false = rad s.data.toList ∧ Lib.hasPrefix s.data.toList [48, 120] = false ∧ Lib.hasPrefix s.data.toList [48, 98] = false ∧ Lib.hasPrefix s.data.toList [48] = false) ∨
    (∃ _ : 0 < s.size, ((s[0].toNat : Int) != 48) = false ∧ ¬ 1 < s.size ∧ scan 8 (s.extract 1 s.size).data.toList 0 true = rad s.data.toList ∧ scan 8 s.data.toList 0 false = rad s.data.toList ∧ Lib.hasPrefix s.data.toList [48, 120] = false ∧ Lib.hasPrefix s.data.toList [48, 98] = false ∧ Lib.hasPrefix s.data.toList [48] = true) ∨
    (∃ (_ : 0 < s.size) (_ : 1 < s.size), ((s[0].toNat : Int) != 48) = false ∧ ((s[1].toNat : Int) == 120) = true ∧ scan 16 (s.extract 2 s.size).data.toList 0 false = rad s.data.toList ∧ Lib.hasPrefix s.data.toList [48, 120] = true) ∨
    (∃ (_ : 0 < s.size) (_ : 1 < s.size), ((s[0].toNat : Int) != 48) = false ∧ ((s[1].toNat : Int) == 120) = false ∧ ((s[1].toNat : Int) == 98) = true ∧ scan 2 (s.extract 2 s.size).data.toList 0 false = rad s.data.toList ∧ Lib.hasPrefix s.data.toList [48, 120] = false ∧ Lib.hasPrefix s.data.toList [48, 98] = true) ∨
    (∃ (_ : 0 < s.size) (_ : 1 < s.size), ((s[0].toNat : Int) != 48) = false ∧ ((s[1].toNat : Int) == 120) = false ∧ ((s[1].toNat : Int) == 98) = false ∧ scan 8 (s.extract 1 s.size).data.toList 0 true = rad s.data.toList ∧ scan 8 s.data.toList 0 false = rad s.data.toList ∧ Lib.hasPrefix s.data.toList [48, 120] = false ∧ Lib.hasPrefix s.data.toList [48, 98] = false ∧ Lib.hasPrefix s.data.toList [48] = true) := by
  have hne : ∀ b c : UInt8, ((b.toNat : Int) != (c.toNat : Int)) = !decide (b = c) := fun b c => by rw [bne, byte_eq]
  by_cases h0 : 0 < s.size
  · have e0 : s.data.toList = s[0] :: s.data.toList.drop 1 := drop_at s 0 h0
    by_cases hc : s[0] = 48
    · have hb0 : ((s[0].toNat : Int) != 48) = false := by rw [show (48 : Int) = ((48 : UInt8).toNat : Int) from rfl, hne, hc]; rfl
      rw [hc] at e0
      by_cases h1 : 1 < s.size
      · have e1 : s.data.toList.drop 1 = s[1] :: s.data.toList.drop 2 := drop_at s 1 h1
        by_cases hx : s[1] = 120
        · have hb1 : ((s[1].toNat : Int) == 120) = true := by rw [show (120 : Int) = ((120 : UInt8).toNat : Int) from rfl, byte_eq, hx]; rfl
          refine .inr (.inr (.inr (.inl ⟨h0, h1, hb0, hb1, ?_, ?_⟩)))
          · rw [dropE, e0, e1, hx]; rfl
          · rw [e0, e1, hx]; rfl
        · have hb1 : ((s[1].toNat : Int) == 120) = false := by rw [show (120 : Int) = ((120 : UInt8).toNat : Int) from rfl, byte_eq]; simp [hx]
          by_cases hy : s[1] = 98
          · have hb2 : ((s[1].toNat : Int) == 98) = true := by rw [show (98 : Int) = ((98 : UInt8).toNat : Int) from rfl, byte_eq, hy]; rfl
            refine .inr (.inr (.inr (.inr (.inl ⟨h0, h1, hb0, hb1, hb2, ?_, ?_, ?_⟩))))
            · rw [dropE, e0, e1, hy]; rfl
            · rw [e0, e1, hy]; rfl
            · rw [e0, e1, hy]; rfl
          · have hb2 : ((s[1].toNat : Int) == 98) = false := by rw [show (98 : Int) = ((98 : UInt8).toNat : Int) from rfl, byte_eq]; simp [hy]
            have hr : scan 8 s.data.toList 0 false = rad s.data.toList := by rw [e0, e1]; exact (rad_oct hx hy).symm
            refine .inr (.inr (.inr (.inr (.inr ⟨h0, h1, hb0, hb1, hb2, ?_, hr, ?_, ?_, ?_⟩))))
            · rw [dropE, ← hr, ← scan_lead, ← e0]
            · rw [e0, e1, pre_yes]; exact pre_no hx
            · rw [e0, e1, pre_yes]; exact pre_no hy
            · rw [e0, pre_yes]; rfl
      · have e1 : s.data.toList.drop 1 = [] := nil_at s 1 (by omega)
        rw [e1] at e0
        refine .inr (.inr (.inl ⟨h0, hb0, h1, ?_, ?_, ?_, ?_, ?_⟩))
        · rw [dropE, e0]; rfl
        · rw [e0]; rfl
        · rw [e0]; rfl
        · rw [e0]; rfl
        · rw [e0]; rfl
    · have hb0 : ((s[0].toNat : Int) != 48) = true := by rw [show (48 : Int) = ((48 : UInt8).toNat : Int) from rfl, hne]; simp [hc]
      refine .inr (.inl ⟨h0, hb0, ?_, ?_, ?_, ?_⟩)
      · rw [e0]; exact (rad_no hc).symm
      · rw [e0]; exact pre_no hc
      · rw [e0]; exact pre_no hc
      · rw [e0]; exact pre_no hc
  · rw [nil_of_zero s h0]
    exact .inl ⟨h0, rfl, rfl, rfl, rfl, rfl⟩

theorem cutPrefix_any (s p : ByteArray) (b : Bool) (h : Lib.hasPrefix s.data.toList p.data.toList = b) (hs : s.size ≤ 140737488351232) (w : World) : Calls Tryd.prog 69 #[.string s, .string p] w fun e w' => ∃ r : ByteArray, r.size ≤ 140737488351232 ∧ (b = true → r.data.toList = s.data.toList.drop p.data.toList.length) ∧ e = .returned (.tuple #[.string r, .bool b]) ∧ w = w' := by
  have g := Any.strings_CutPrefix Tryd.lays103 s p w
  change Calls Tryd.prog 69 _ _ _ at g
  subst h
  refine g.mono fun e w' ⟨he, hb⟩ => ⟨_, ?_, ?_, he, hb.symm⟩
  · rw [← sizeL] at hs ⊢
    refine Nat.le_trans ?_ hs
    unfold Lib.trimPrefix
    split
    · simp
    · simp
  · intro h; simp [Lib.trimPrefix, h]
theorem hasPrefix_any (s p : ByteArray) (b : Bool) (h : Lib.hasPrefix s.data.toList p.data.toList = b) (w : World) : Calls Tryd.prog 71 #[.string s, .string p] w fun e w' => e = .returned (.bool b) ∧ w = w' := by
  have g := Any.strings_HasPrefix Tryd.lays99 s p w
  change Calls Tryd.prog 71 _ _ _ at g
  exact g.mono fun e w' ⟨he, hb⟩ => ⟨by rw [he, h], hb.symm⟩
set_option maxHeartbeats 1000000 in
theorem radix_any (s : ByteArray) (w : World) (hs : s.size ≤ 140737488351232) : Calls Tryd.prog 42 #[.string s] w fun e w' => e = .returned (.tuple #[.int .i64 (optZ (rad s.data.toList)), .bool (optB (rad s.data.toList))]) ∧ Gr w w' := by
  have hx := fun b h w => cutPrefix_any s ⟨#[48, 120]⟩ b h hs w
  have hb := fun b h w => cutPrefix_any s ⟨#[48, 98]⟩ b h hs w
  have h0 := fun b h w => hasPrefix_any s ⟨#[48]⟩ b h w
  have hc := rad_cases s
  generalize hR : rad s.data.toList = R at *
  clear hR
  rcases hc with ⟨_, _, g1, g2, g3, g⟩ | ⟨_, _, g, g1, g2, g3⟩ | ⟨_, _, _, _, g, g1, g2, g3⟩ | ⟨_, _, _, _, g, g1⟩ | ⟨_, _, _, _, _, g, g1, g2⟩ | ⟨_, _, _, _, _, _, g, g1, g2, g3⟩
  case inr.inr.inr.inl =>
    have hX := Lib.hid (hx true g1)
    have G := Lib.hid g
    clear hx hb h0 g1 g
    go_enter Tryd.func42, Tryd.ntmps42
    go_wp2_with fail
    refine (hX.out _).mono ?_
    rintro e w' ⟨r, hr, hd, rfl, rfl⟩
    have Hd := Lib.hid (hd trivial)
    clear hd
    go_wp2_with fail
    refine (valueOf_any r 16 (by decide) _ hr).mono ?_
    rintro e w1 ⟨rfl, hg⟩
    have e1 : scan 16 r.data.toList 0 false = R := by rw [Hd.out, ← G.out, dropE]; rfl
    rw [e1]
    go_wp2
    go_ret2
    exact ⟨rfl, hg⟩
  case inr.inr.inr.inr.inl =>
    have hX := Lib.hid (hx false g1)
    have hB := Lib.hid (hb true g2)
    have G := Lib.hid g
    clear hx hb h0 g1 g2 g
    go_enter Tryd.func42, Tryd.ntmps42
    go_wp2_with fail
    refine (hX.out _).mono ?_
    rintro e w' ⟨r, hr, hd, rfl, rfl⟩
    clear hr hd
    go_wp2_with fail
    refine (hB.out _).mono ?_
    rintro e w' ⟨r, hr, hd, rfl, rfl⟩
    have Hd := Lib.hid (hd trivial)
    clear hd
    go_wp2_with fail
    refine (valueOf_any r 2 (by decide) _ hr).mono ?_
    rintro e w1 ⟨rfl, hg⟩
    have e1 : scan 2 r.data.toList 0 false = R := by rw [Hd.out, ← G.out, dropE]; rfl
    rw [e1]
    go_wp2
    go_ret2
    exact ⟨rfl, hg⟩
  all_goals
    have hX := Lib.hid (hx false g1)
    have hB := Lib.hid (hb false g2)
    have h0' := Lib.hid (h0 _ g3)
    have G := Lib.hid g
    clear hx hb h0 g1 g2 g3 g
    go_enter Tryd.func42, Tryd.ntmps42
    go_wp2_with fail
    refine (hX.out _).mono ?_
    rintro e w' ⟨r, hr, hd, rfl, rfl⟩
    clear hr hd
    go_wp2_with fail
    refine (hB.out _).mono ?_
    rintro e w' ⟨r, hr, hd, rfl, rfl⟩
    clear hr hd
    go_wp2_with fail
    refine (h0'.out _).mono ?_
    rintro e w' ⟨rfl, rfl⟩
    go_wp2_with fail
    refine (valueOf_any s _ (by decide) _ hs).mono ?_
    rintro e w1 ⟨rfl, hg⟩
    rw [G.out]
    go_wp2
    go_ret2
    exact ⟨rfl, hg⟩
theorem digits_empty (s : ByteArray) (base : Int) (h : ¬ 0 < s.size) (w : World) :
    Calls Tryd.prog 68 #[.string s, .int .i64 base, .bool false] w fun e w' => e = .returned (.tuple #[.int .i64 0, .bool true]) ∧ Gr w w' := by
  have hz : s.size = 0 := by omega
  clear h
  go_enter Tryd.func68, Tryd.ntmps68
  go_wp2_with fail
  go_loop [8, 9, 10] (fun n _ i => n = .int .i64 0 ∧ i = .int .i64 0) (fun _ _ i => 0)
  case atStart => exact ⟨rfl, rfl⟩
  case round =>
    obtain ⟨rfl, rfl⟩ := hrel
    go_wp2
    go_ret2
    exact ⟨rfl, Gr.refl w⟩
set_option maxHeartbeats 2000000 in
theorem refRadix_any (s : ByteArray) (w : World) (hs : s.size ≤ 140737488351232) : Calls Tryd.prog 41 #[.string s] w fun e w' => e = .returned (.tuple #[.int .i64 (optZ (rad s.data.toList)), .bool (optB (rad s.data.toList))]) ∧ Gr w w' := by
  have hc := rad_cases s
  generalize hR : rad s.data.toList = R at *
  clear hR
  rcases hc with ⟨k0, g, _, _, _, _⟩ | ⟨k0, k1, g, _, _, _⟩ | ⟨k0, k1, k2, g, _, _, _, _⟩ | ⟨k0, k1, k2, k3, g, _⟩ | ⟨k0, k1, k2, k3, k4, g, _, _⟩ | ⟨k0, k1, k2, k3, k4, g, _, _, _, _⟩
  · have hne' : s.toList.isEmpty = true := by rw [ByteArray.toList_eq, nil_of_zero s k0]; rfl
    subst g
    go_enter Tryd.func41, Tryd.ntmps41
    go_wp2
    go_ret2
    exact ⟨rfl, Gr.refl w⟩
  · have hne' : s.toList.isEmpty = false := by simpa using ne_of_pos s k0
    have G := Lib.hid g
    clear g
    go_enter Tryd.func41, Tryd.ntmps41
    go_wp2_with fail
    refine (digits_any s 10 false (by decide) (.inl k0) _ hs).mono ?_
    rw [G.out]
    rintro e w1 ⟨x, t, rfl, hx, hg⟩
    cases R with
    | none => subst hx; go_wp2; go_ret2; exact ⟨rfl, hg⟩
    | some v => obtain ⟨rfl, rfl⟩ := hx; go_wp2; go_ret2; exact ⟨rfl, hg⟩
  · have hne' : s.toList.isEmpty = false := by simpa using ne_of_pos s k0
    have hsz : (s.extract 1 s.size).size ≤ 140737488351232 := by simp; omega
    have hD := Lib.hid (fun w => digits_any (s.extract 1 s.size) 8 true (by decide) (.inr rfl) w hsz)
    rw [g] at hD
    clear g
    go_enter Tryd.func41, Tryd.ntmps41
    go_wp2_with fail
    refine (hD.out _).mono ?_
    rintro e w1 ⟨x, t, rfl, hx, hg⟩
    cases R with
    | none => subst hx; go_wp2; go_ret2; exact ⟨rfl, hg⟩
    | some v => obtain ⟨rfl, rfl⟩ := hx; go_wp2; go_ret2; exact ⟨rfl, hg⟩
  · have hne' : s.toList.isEmpty = false := by simpa using ne_of_pos s k0
    have hsz : (s.extract 2 s.size).size ≤ 140737488351232 := by simp; omega
    by_cases h2 : 2 < s.size
    · have h2b : decide ((2 : Int) < (s.size : Int)) = true := by simp; omega
      have hD := Lib.hid (fun w => digits_any (s.extract 2 s.size) 16 false (by decide) (.inl (by simp; omega)) w hsz)
      rw [g] at hD
      clear g
      go_enter Tryd.func41, Tryd.ntmps41
      go_wp2_with fail
      refine (hD.out _).mono ?_
      rintro e w1 ⟨x, t, rfl, hx, hg⟩
      cases R with
      | none => subst hx; go_wp2; go_ret2; exact ⟨rfl, hg⟩
      | some v => obtain ⟨rfl, rfl⟩ := hx; go_wp2; go_ret2; exact ⟨rfl, hg⟩
    · have h2b : decide ((2 : Int) < (s.size : Int)) = false := by simp; omega
      have hD := Lib.hid (fun w => digits_empty (s.extract 2 s.size) 16 (by simp; omega) w)
      rw [dropE, nil_at s 2 (by omega)] at g
      change none = R at g
      subst g
      go_enter Tryd.func41, Tryd.ntmps41
      go_wp2_with fail
      refine (hD.out _).mono ?_
      rintro e w1 ⟨rfl, hg⟩
      go_wp2
      go_ret2
      exact ⟨rfl, hg⟩
  · have hne' : s.toList.isEmpty = false := by simpa using ne_of_pos s k0
    have hsz : (s.extract 2 s.size).size ≤ 140737488351232 := by simp; omega
    by_cases h2 : 2 < s.size
    · have h2b : decide ((2 : Int) < (s.size : Int)) = true := by simp; omega
      have hD := Lib.hid (fun w => digits_any (s.extract 2 s.size) 2 false (by decide) (.inl (by simp; omega)) w hsz)
      rw [g] at hD
      clear g
      go_enter Tryd.func41, Tryd.ntmps41
      go_wp2_with fail
      refine (hD.out _).mono ?_
      rintro e w1 ⟨x, t, rfl, hx, hg⟩
      cases R with
      | none => subst hx; go_wp2; go_ret2; exact ⟨rfl, hg⟩
      | some v => obtain ⟨rfl, rfl⟩ := hx; go_wp2; go_ret2; exact ⟨rfl, hg⟩
    · have h2b : decide ((2 : Int) < (s.size : Int)) = false := by simp; omega
      have hD := Lib.hid (fun w => digits_empty (s.extract 2 s.size) 2 (by simp; omega) w)
      rw [dropE, nil_at s 2 (by omega)] at g
      change none = R at g
      subst g
      go_enter Tryd.func41, Tryd.ntmps41
      go_wp2_with fail
      refine (hD.out _).mono ?_
      rintro e w1 ⟨rfl, hg⟩
      go_wp2
      go_ret2
      exact ⟨rfl, hg⟩
  · have hne' : s.toList.isEmpty = false := by simpa using ne_of_pos s k0
    have hsz : (s.extract 1 s.size).size ≤ 140737488351232 := by simp; omega
    have hD := Lib.hid (fun w => digits_any (s.extract 1 s.size) 8 true (by decide) (.inr rfl) w hsz)
    rw [g] at hD
    clear g
    go_enter Tryd.func41, Tryd.ntmps41
    go_wp2_with fail
    refine (hD.out _).mono ?_
    rintro e w1 ⟨x, t, rfl, hx, hg⟩
    cases R with
    | none => subst hx; go_wp2; go_ret2; exact ⟨rfl, hg⟩
    | some v => obtain ⟨rfl, rfl⟩ := hx; go_wp2; go_ret2; exact ⟨rfl, hg⟩
theorem law_radix (s : ByteArray) (hs : s.size ≤ 140737488351232) (w : World) :
    Calls Tryd.prog 12 #[.string s] w fun e w' => e = .returned (.bool true) ∧ Gr w w' := by
  by_cases hl : 16384 < s.size
  · go_enter Tryd.func12, Tryd.ntmps12
    go_wp2_with (first | (go_at_call 15; refine (long_any _ _ (by omega)).mono ?_; rintro e w' ⟨rfl, rfl⟩) | (go_at_call 16; refine (known_any _).mono ?_; rintro e w' ⟨rfl, hg⟩))
    go_ret
    exact ⟨rfl, hg⟩
  · have H1 := Lib.hid (fun w => refRadix_any s w hs)
    have H2 := Lib.hid (fun w => radix_any s w hs)
    generalize optZ (rad s.data.toList) = Z at *
    generalize optB (rad s.data.toList) = B at *
    have hB : (B == B) = true := by cases B <;> rfl
    go_enter Tryd.func12, Tryd.ntmps12
    go_wp2_with (first | (go_at_call 15; refine (long_any _ _ (by omega)).mono ?_; rintro e w' ⟨rfl, rfl⟩))
    refine (H1.out _).mono ?_
    rintro e w1 ⟨rfl, g1⟩
    go_wp2_with fail
    refine (H2.out _).mono ?_
    rintro e w2 ⟨rfl, g2⟩
    go_wp2_with fail
    refine (known_any _).mono ?_
    rintro e w3 ⟨rfl, g3⟩
    go_wp2
    go_ret
    exact ⟨rfl, (g1.trans g2).trans g3⟩
end Go.Proofs.YthdchkjipafmfaaDoor
