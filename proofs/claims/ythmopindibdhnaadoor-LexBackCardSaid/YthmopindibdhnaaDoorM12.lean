/- GFlag GBt GSec -/
import Derived.Test.YthmopindibdhnaaDoorM11
import Derived.BigRegion
namespace Go.Proofs.YthmopindibdhnaaDoor.G
open Go.RowKit Go.Shelf Go.Maps
variable {w : World} {P : Nat} {M : GoMap} {s : ByteArray} {at_ en : Nat} {tm : Bool} {tv bv ov : Value} {o : UInt8}
set_option maxRecDepth 100000 in
set_option maxHeartbeats 1000000 in
theorem flags_m {Q fr : Nat} (h : Sc w P M s at_ en tm tv bv ov) (hq : Quo w Q P fr o) (hQP : Q ≠ P) (hat : at_ ≤ s.size) (hs : s.size ≤ 140737488351232) (all : ByteArray) (hall : all.size ≤ 100) :
    Calls Tryd.prog 70 #[.pointer (some ⟨Q, 0, none⟩), .string all] w fun e w' => e = .returned (.string (s.extract at_ (at_ + flagN s.data.toList at_ all.data.toList 0))) ∧ Sc w' P M s (at_ + flagN s.data.toList at_ all.data.toList 0) en tm tv bv ov ∧ But P w w' := by
  have H := Lib.hid h
  have HQ := Lib.hid hq
  obtain ⟨l, hl⟩ : ∃ l, l = s.data.toList := ⟨_, rfl⟩
  have hsz : s.size = l.length := by rw [hl, ← sizeL]
  have HB := Lib.hid (fun n (h : n < s.size) (h' : n < l.length) => (show s[n] = l[n] by subst hl; exact byteE s n h h'))
  have HA := Lib.hid (fun n (h : n < all.size) (h' : n < all.data.toList.length) => byteE all n h h')
  rw [← hl]
  have HR : Hid (flagN l at_ all.data.toList 0 = flagN l at_ (all.data.toList.drop 0) 0) := Lib.hid rfl
  generalize flagN l at_ all.data.toList 0 = R at *
  have Hsz := Lib.hid hsz
  have HT := Lib.hid (fun (W : World) (n : Nat) (hn : at_ + n ≤ s.size) (hS : Sc W P M s at_ en tm tv bv ov) => take_m hS n hn hs)
  clear h hq hl hsz
  go_enter Tryd.func70, Tryd.ntmps70
  go_wp2_with fail
  go_loopw [5, 6, 9] (fun nv _ iv wr => ∃ n i : Nat, nv = .int .i64 (n : Int) ∧ iv = .int .i64 (i : Int) ∧ i ≤ all.size ∧ n ≤ i ∧ at_ + n ≤ s.size ∧ Gr w wr ∧ Hid (R = flagN l at_ (all.data.toList.drop i) n)) (fun _ _ iv _ => leftTo all.size iv)
  case atStart => exact ⟨0, 0, rfl, rfl, Nat.zero_le _, Nat.le_refl _, hat, Gr.refl w, HR⟩
  case round =>
    obtain ⟨n, i, rfl, rfl, hi, hni, hn, hg, hR⟩ := hrel
    clear HR
    have Hg := Lib.hid hg
    clear hg
    obtain ⟨c0, c1, c2, c3, c4, c5, c6, c7, cf⟩ := (H.out.gr Hg.out).cells
    obtain ⟨q0, q1, q2⟩ := (HQ.out.but (But.of_gr Hg.out) hQP).cells
    by_cases hc : i < all.size
    · have hci : (i : Int) < (all.size : Int) := by omega
      have hiL : i < all.data.toList.length := by rw [sizeL]; exact hc
      have ea := HA.out i hc hiL
      have hst := flagN_step (l := l) (a := at_) (n := n) hiL
      obtain ⟨m, hm⟩ : ∃ m, m = at_ + n := ⟨_, rfl⟩
      have hm' : (at_ : Int) + (n : Int) = (m : Int) := by omega
      have hwm : IntKind.i64.wrap (m : Int) = (m : Int) := by rw [IntKind.wrap_i64]; omega
      rw [← hm] at hst
      have bn : (n : Int) + 1 ≤ 9223372036854775807 := by omega
      have bn2 : -9223372036854775808 ≤ (n : Int) + 1 := by omega
      have Hm := Lib.hid hm
      by_cases hml : m < l.length
      · rw [List.getElem?_eq_getElem hml] at hst
        have hms : m < s.size := by rw [Hsz.out]; exact hml
        have hmi : (m : Int) < (s.size : Int) := by omega
        have ex := HB.out m hms hml
        by_cases hxy : l[m] = all.data.toList[i]
        · rw [hxy] at hst ex
          rw [if_pos rfl] at hst
          have HE := Lib.hid hst
          generalize all.data.toList[i] = y at *
          clear hst hxy HB HA HT hm
          go_wp2_with fail
          go_quiet (fail)
          go_wp2_with fail
          go_roundw
          case rel =>
            have := Hm.out
            exact ⟨n + 1, i + 1, rfl, rfl, by omega, by omega, by omega, Hg.out.drewN _, Lib.hid (by rw [hR.out, HE.out])⟩
          case measure => simp only [leftTo]; omega
        · rw [if_neg (fun h => hxy (Option.some.inj h))] at hst
          have HE := Lib.hid hst
          have hne : ((l[m].toNat : Int) == (all.data.toList[i].toNat : Int)) = false := by
            simp only [beq_eq_false_iff_ne, ne_eq]
            intro h
            exact hxy (UInt8.toNat_inj.1 (by omega))
          generalize all.data.toList[i] = y at *
          generalize l[m] = x at *
          clear hst hxy HB HA HT hm
          go_wp2_with fail
          go_quiet (fail)
          go_wp2_with fail
          go_roundw
          case rel =>
            exact ⟨n, i + 1, rfl, rfl, by omega, by omega, hn, Hg.out.drewN _, Lib.hid (by rw [hR.out, HE.out])⟩
          case measure => simp only [leftTo]; omega
      · rw [List.getElem?_eq_none (by omega), if_neg (by simp)] at hst
        have HE := Lib.hid hst
        have hmi : decide (m < s.size) = false := by rw [Hsz.out]; simp; omega
        have hmi' : decide ((m : Int) < (s.size : Int)) = false := by rw [Hsz.out]; simp; omega
        clear hst HB HA HT hm ea
        go_wp2_with fail
        go_quiet (fail)
        go_wp2_with fail
        go_roundw
        case rel =>
          exact ⟨n, i + 1, rfl, rfl, by omega, by omega, hn, Hg.out.drewN _, Lib.hid (by rw [hR.out, HE.out])⟩
        case measure => simp only [leftTo]; omega
    · have E : Hid (R = n) := Lib.hid (by rw [hR.out, List.drop_eq_nil_of_le (by rw [sizeL]; omega)]; rfl)
      have hci : decide ((i : Int) < (all.size : Int)) = false := by simp; omega
      have hci' : decide (i < all.size) = false := by simp; omega
      clear hR HB HA hc
      go_wp2_with fail
      refine (HT.out _ n hn (H.out.gr Hg.out)).mono ?_
      rintro e w2 ⟨rfl, hS2, hb2⟩
      go_wp2
      go_ret
      rw [E.out]
      exact ⟨rfl, hS2, (But.of_gr Hg.out).trans hb2⟩
end Go.Proofs.YthmopindibdhnaaDoor.G
namespace Go.Proofs.YthmopindibdhnaaDoor.G
open Go.RowKit Go.Shelf Go.Maps
/-- all blocks but A and B stand as they stood -/
structure Bt (A B : Nat) (w w' : World) : Prop where
  os : w'.os = w.os
  tape : w'.tape = w.tape
  output : w'.output = w.output
  size : w.heap.size ≤ w'.heap.size
  block : ∀ i, i < w.heap.size → i ≠ A → i ≠ B → w'.heap[i]? = w.heap[i]?
theorem Bt.refl (A B : Nat) (w : World) : Bt A B w w := ⟨rfl, rfl, rfl, Nat.le_refl _, fun _ _ _ _ => rfl⟩
theorem Bt.trans {A B : Nat} {a b c : World} (h : Bt A B a b) (k : Bt A B b c) : Bt A B a c :=
  ⟨k.os.trans h.os, k.tape.trans h.tape, k.output.trans h.output, Nat.le_trans h.size k.size, fun i hi h1 h2 => (k.block i (Nat.lt_of_lt_of_le hi h.size) h1 h2).trans (h.block i hi h1 h2)⟩
theorem Bt.of_but {A B : Nat} {w w' : World} (h : But A w w') : Bt A B w w' := ⟨h.os, h.tape, h.output, h.size, fun i hi h1 _ => h.block i hi (fun e => h1 (by injection e))⟩
theorem Bt.of_but2 {A B : Nat} {w w' : World} (h : But B w w') : Bt A B w w' := ⟨h.os, h.tape, h.output, h.size, fun i hi _ h1 => h.block i hi (fun e => h1 (by injection e))⟩
theorem Bt.of_gr {A B : Nat} {w w' : World} (h : Gr w w') : Bt A B w w' := ⟨h.os, h.tape, h.output, h.size, fun i hi _ _ => h.block i hi⟩
theorem Bt.late {A B g : Nat} {w W W' : World} (h : Bt A B w W) (hg : w.heap.size ≤ g) (k : But g W W') : Bt A B w W' :=
  ⟨k.os.trans h.os, k.tape.trans h.tape, k.output.trans h.output, Nat.le_trans h.size k.size, fun i hi h1 h2 => (k.block i (Nat.lt_of_lt_of_le hi h.size) (fun e => by injection e with e; omega)).trans (h.block i hi h1 h2)⟩
/-- a new block is no matter -/
theorem Bt.but {A B : Nat} {w W W' : World} (h : But A w W) (hB : w.heap.size ≤ B) (k : Bt A B W W') : But A w W' :=
  ⟨k.os.trans h.os, k.tape.trans h.tape, k.output.trans h.output, Nat.le_trans h.size k.size, fun i hi h1 => (k.block i (Nat.lt_of_lt_of_le hi h.size) (fun e => h1 (by rw [e])) (by omega)).trans (h.block i hi h1)⟩
variable {w w' : World} {P : Nat} {M : GoMap} {s : ByteArray} {at_ en : Nat} {tm : Bool} {tv bv ov : Value} {o e : UInt8}
theorem part_ok {Q fr : Nat} (h : Sc w P M s at_ en tm tv bv ov) (hq : Quo w Q P fr o) (hQP : Q ≠ P) (hs : s.size ≤ 4000) (hJ : JOk s.data.toList M.J) (ha : at_ ≤ s.data.toList.length) (hfr : fr < s.size) (hd : delimB o.toNat = true) {raw : List UInt8} {R : Src} (hX : partS o (partU o) 0 (rest s.data.toList M.J at_) = some (raw, R)) :
    Calls Tryd.prog 65 #[.pointer (some ⟨Q, 0, none⟩)] w fun e w' => ∃ b, e = .returned (.string ⟨raw.toArray⟩) ∧ Sc w' P M s b en tm tv bv ov ∧ But P w w' ∧ R = rest s.data.toList M.J b ∧ at_ < b ∧ b ≤ s.data.toList.length ∧ raw.length ≤ b :=
  (part_g h hq hQP (by omega) hJ ha hfr (partU_int o) (partU_ne hd).2 (partU_ne hd).1 _ rfl).mono fun e w' k => by rw [hX] at k; exact k
theorem part_no {Q fr : Nat} (h : Sc w P M s at_ en tm tv bv ov) (hq : Quo w Q P fr o) (hQP : Q ≠ P) (hs : s.size ≤ 4000) (hJ : JOk s.data.toList M.J) (ha : at_ ≤ s.data.toList.length) (hfr : fr < s.size) (hd : delimB o.toNat = true) (hX : partS o (partU o) 0 (rest s.data.toList M.J at_) = none) :
    Calls Tryd.prog 65 #[.pointer (some ⟨Q, 0, none⟩)] w fun e w' => Bad s e ∧ But P w w' :=
  (part_g h hq hQP (by omega) hJ ha hfr (partU_int o) (partU_ne hd).2 (partU_ne hd).1 _ rfl).mono fun e w' k => by rw [hX] at k; exact k
theorem ba_ext (s : ByteArray) (a n : Nat) : s.extract a (a + n) = ⟨((s.data.toList.drop a).take n).toArray⟩ := baE (by rw [extractE, Nat.add_sub_cancel_left])
/-- bytes of one line are taken -/
theorem line_take {l : List UInt8} {J : Nat → Option Nat} {a m n : Nat} (h : LEq (l.drop a) (byt (rest l J a)) m) (hn : n ≤ m) : (l.drop a).take n = (byt (rest l J a)).take n := take_line h hn
theorem drop_lt {l : List UInt8} {a n : Nat} {c : UInt8} (hc : (l.drop a)[n]? = some c) : a + n < l.length := by
  have := (List.getElem?_eq_some_iff.1 hc).1
  rw [List.length_drop] at this; omega
theorem flag_rest {l : List UInt8} {J : Nat → Option Nat} (hJ : JOk l J) (b : Nat) (hb : b ≤ l.length) (all : List UInt8) (h10 : (10 : UInt8) ∉ all) :
    flagN l b all 0 = flagS (rest l J b) all ∧ (l.drop b).take (flagS (rest l J b) all) = (byt (rest l J b)).take (flagS (rest l J b) all) ∧ rest l J (b + flagS (rest l J b) all) = (rest l J b).drop (flagS (rest l J b) all) ∧ b + flagS (rest l J b) all ≤ l.length := by
  obtain ⟨m, h1, h2⟩ := line hJ b
  obtain ⟨f1, f2⟩ := flagN_line h1 all h10 0 (Nat.zero_le _)
  have hf : flagS (rest l J b) all = flagN (l.drop b) 0 all 0 := f1.symm
  have hlen : ∀ (t : List UInt8) (n : Nat), n ≤ (l.drop b).length → flagN (l.drop b) 0 t n ≤ (l.drop b).length := by
    intro t
    induction t with
    | nil => intro n hn; exact hn
    | cons c t ih =>
      intro n hn
      rw [flagN]
      split
      · rename_i h
        have := (List.getElem?_eq_some_iff.1 h).1
        exact ih _ (by omega)
      · exact ih _ hn
  have hl := hlen all 0 (Nat.zero_le _)
  rw [List.length_drop] at hl
  rw [hf]
  exact ⟨flagN_off l all b 0, take_line h1 f2, (h2 _ f2).symm, by omega⟩
theorem flags_g {Q fr : Nat} (h : Sc w P M s at_ en tm tv bv ov) (hq : Quo w Q P fr o) (hQP : Q ≠ P) (hat : at_ ≤ s.data.toList.length) (hs : s.size ≤ 4000) (hJ : JOk s.data.toList M.J) (all : ByteArray) (hall : all.size ≤ 100) (h10 : (10 : UInt8) ∉ all.data.toList) {R : Src} (hR : R = rest s.data.toList M.J at_) :
    Calls Tryd.prog 70 #[.pointer (some ⟨Q, 0, none⟩), .string all] w fun e w' => ∃ b, e = .returned (.string ⟨((byt R).take (flagS R all.data.toList)).toArray⟩) ∧ Sc w' P M s b en tm tv bv ov ∧ But P w w' ∧ R.drop (flagS R all.data.toList) = rest s.data.toList M.J b ∧ at_ ≤ b ∧ b ≤ s.data.toList.length := by
  obtain ⟨f1, f2, f3, f4⟩ := flag_rest hJ at_ hat all.data.toList h10
  subst hR
  refine (flags_m h hq hQP (by rw [← sizeL]; exact hat) (by omega) all hall).mono fun e w' k => ?_
  rw [f1, ba_ext, f2] at k
  obtain ⟨k1, k2, k3⟩ := k
  exact ⟨_, k1, k2, k3, f3.symm, by omega, f4⟩
end Go.Proofs.YthmopindibdhnaaDoor.G
namespace Go.Proofs.YthmopindibdhnaaDoor.G
open Go.RowKit Go.Shelf Go.Maps
variable {w w' : World} {P : Nat} {M : GoMap} {s : ByteArray} {at_ en : Nat} {tm : Bool} {tv bv ov : Value} {o e : UInt8}
theorem blkS_blk {l : List UInt8} {J : Nat → Option Nat} {n : Nat} (hJ : JOk l J) (h : n < l.length) (hb : blkB l[n].toNat = true) : blkS (rest l J n) = blkS (rest l J (nx J n)) := by
  rw [rest_cons hJ h, blkS, if_pos hb]
theorem blkS_stop {l : List UInt8} {J : Nat → Option Nat} {n : Nat} (hJ : JOk l J) (h : ∀ h : n < l.length, blkB l[n].toNat = false) : blkS (rest l J n) = rest l J n := by
  by_cases hn : n < l.length
  · rw [rest_cons hJ hn, blkS, if_neg (by rw [h hn]; decide)]
  · rw [rest_nil (by omega)]; rfl
/-- what the reading of a second part leaves -/
def SecP (s : ByteArray) (P Q fr : Nat) (M : GoMap) (en : Nat) (tm : Bool) (tv bv ov : Value) (a : Nat) (w : World) (X : Option (UInt8 × List UInt8 × Src)) (e : Ending) (w' : World) : Prop :=
  match X with
  | none => Bad s e ∧ Bt P Q w w'
  | some r => ∃ b, e = .returned (.string ⟨r.2.1.toArray⟩) ∧ Sc w' P M s b en tm tv bv ov ∧ Quo w' Q P fr r.1 ∧ Bt P Q w w' ∧ r.2.2 = rest s.data.toList M.J b ∧ a < b ∧ b ≤ s.data.toList.length ∧ r.2.1.length ≤ b
theorem Quo_setO {Q fr : Nat} (h : Quo w Q P fr o) (c : UInt8) : Quo (w.setCell ⟨Q, 2, none⟩ (.int .u8 (c.toNat : Int))) Q P fr c := by
  unfold Quo at *
  simp [World.setCell, Array.getElem?_modify, h]
theorem Quo_gr {Q fr : Nat} (h : Quo w Q P fr o) (g : Gr w w') : Quo w' Q P fr o := by
  unfold Quo at *
  rw [g.block _ (Array.getElem?_eq_some_iff.1 h).1]; exact h
theorem Quo_frz {Q fr : Nat} (h : Quo w Q P fr o) : ∀ j, w.frozen? ⟨Q, j, none⟩ = false := by
  unfold Quo at h
  exact (cellsOf h).2
set_option maxRecDepth 100000 in
set_option maxHeartbeats 2000000 in
theorem second_g {Q fr : Nat} (h : Sc w P M s at_ en tm tv bv ov) (hq : Quo w Q P fr o) (hQP : Q ≠ P) (hQM : Q ≠ M.blk) (hs : s.size ≤ 4000) (hJ : JOk s.data.toList M.J) (ha : at_ ≤ s.data.toList.length) (hfr : fr < s.size) (hd : delimB o.toNat = true) (X : Option (UInt8 × List UInt8 × Src)) (hX : X = secondS o (rest s.data.toList M.J at_)) :
    Calls Tryd.prog 71 #[.pointer (some ⟨Q, 0, none⟩)] w (SecP s P Q fr M en tm tv bv ov at_ w X) := by
  have H := Lib.hid h
  have HQ := Lib.hid hq
  have HP := Lib.hid (fun w => part_p o.toNat w)
  rw [← partU_int] at HP
  obtain ⟨q0, q1, q2⟩ := hq.cells
  have HJ := Lib.hid hJ
  have Hfr := Lib.hid hfr
  have Hd := Lib.hid hd
  have Ha := Lib.hid ha
  have hQB : Q < w.heap.size := (Array.getElem?_eq_some_iff.1 hq).1
  by_cases hp : partU o = o
  · have hX2 : X = (partS o (partU o) 0 (rest s.data.toList M.J at_)).map fun r => (o, r.1, r.2) := by rw [hX]; unfold secondS; rw [if_pos hp, hp]
    have tp : (((partU o).toNat : Int) == (o.toNat : Int)) = true := by rw [hp]; simp
    cases hY : partS o (partU o) 0 (rest s.data.toList M.J at_) with
    | none =>
      have HPt := Lib.hid (fun (W : World) (hS : Sc W P M s at_ en tm tv bv ov) (hq : Quo W Q P fr o) => part_no hS hq hQP hs HJ.out Ha.out Hfr.out Hd.out hY)
      have HX : Hid (X = none) := Lib.hid (by rw [hX2, hY]; rfl)
      generalize partU o = po at *
      clear h hq hX hX2 hp hY hJ hfr hd ha
      go_enter Tryd.func71, Tryd.ntmps71
      go_wp2_with fail
      go_quiet ((go_at_call 79; exact quiet_at (HP.out _)))
      go_wp2_with fail
      refine (HPt.out _ (H.out.gr ((Gr.refl w).drewN _)) (Quo_gr HQ.out ((Gr.refl w).drewN _))).mono ?_
      rintro e w2 ⟨⟨q, hq, rfl⟩, hb2⟩
      go_wp2_with fail
      refine ⟨rfl, ?_⟩
      rw [HX.out]
      exact ⟨⟨q, hq, rfl⟩, Bt.of_but ((But.of_gr ((Gr.refl w).drewN _)).trans hb2)⟩
    | some r =>
      obtain ⟨raw, R⟩ := r
      have HPt := Lib.hid (fun (W : World) (hS : Sc W P M s at_ en tm tv bv ov) (hq : Quo W Q P fr o) => part_ok hS hq hQP hs HJ.out Ha.out Hfr.out Hd.out hY)
      have HX : Hid (X = some (o, raw, R)) := Lib.hid (by rw [hX2, hY]; rfl)
      generalize partU o = po at *
      clear h hq hX hX2 hp hY hJ hfr hd ha
      go_enter Tryd.func71, Tryd.ntmps71
      go_wp2_with fail
      go_quiet ((go_at_call 79; exact quiet_at (HP.out _)))
      go_wp2_with fail
      refine (HPt.out _ (H.out.gr ((Gr.refl w).drewN _)) (Quo_gr HQ.out ((Gr.refl w).drewN _))).mono ?_
      rintro e w2 ⟨b, rfl, hS2, hb2, hR, hab, hbl, hlen⟩
      have S2 := Lib.hid hS2
      have B2 := Lib.hid ((But.of_gr ((Gr.refl w).drewN _)).trans hb2)
      have HR := Lib.hid hR
      clear hS2 hb2 hR
      go_wp2
      go_ret
      rw [HX.out]
      exact ⟨b, rfl, S2.out, HQ.out.but B2.out hQP, Bt.of_but B2.out, HR.out, hab, hbl, hlen⟩
  · have hX2 : X = secondT (blkS (rest s.data.toList M.J at_)) := by rw [hX]; unfold secondS; rw [if_neg hp]
    have tp : (((partU o).toNat : Int) == (o.toNat : Int)) = false := u8_ne hp
    obtain ⟨l, hl⟩ : ∃ l, l = s.data.toList := ⟨_, rfl⟩
    have hsz : s.size = l.length := by rw [hl, ← sizeL]
    have HB := Lib.hid (fun n (h : n < s.size) (h' : n < l.length) => (show s[n] = l[n] by subst hl; exact byteE s n h h'))
    have HST := Lib.hid (fun (W : World) (k : Nat) (hk : k ≤ 140737488351232) (hS : Sc W P M s k en tm tv bv ov) => step_m hS hk)
    have HK := Lib.hid (fun x w => blk_p x w)
    have HDL := Lib.hid (fun x w => delim_p x w)
    have HX := Lib.hid hX2
    have Hl := Lib.hid hl
    have Hsz := Lib.hid hsz
    have Hpo := Lib.hid tp
    generalize partU o = po at *
    clear h hq hX hX2 hp hJ hfr hd ha hsz
    go_enter Tryd.func71, Tryd.ntmps71
    go_wp2_with fail
    go_quiet ((go_at_call 79; exact quiet_at (HP.out _)))
    clear q0 q1 q2
    go_wp2_with fail
    go_loopw [] (fun wr => ∃ n : Nat, at_ ≤ n ∧ n ≤ l.length ∧ Sc wr P M s n en tm tv bv ov ∧ But P w wr ∧ Hid (blkS (rest l M.J at_) = blkS (rest l M.J n))) (fun wr => atLeft s.size P wr)
    case atStart => exact ⟨at_, Nat.le_refl _, by rw [Hl.out]; exact Ha.out, H.out.gr ((Gr.refl w).drewN _), But.of_gr ((Gr.refl w).drewN _), Lib.hid rfl⟩
    case round =>
      obtain ⟨n, han, hnl, hS, hBu, hE⟩ := hrel
      have S := Lib.hid hS
      have Bu := Lib.hid hBu
      have Qn := Lib.hid (HQ.out.but hBu hQP)
      have Han := Lib.hid han
      have Hnl := Lib.hid hnl
      have HJ' : Hid (JOk l M.J) := Lib.hid (by rw [Hl.out]; exact HJ.out)
      clear hS hBu
      obtain ⟨c0, c1, c2, c3, c4, c5, c6, c7, cf⟩ := S.out.cells
      obtain ⟨q0, q1, q2⟩ := Qn.out.cells
      by_cases hc : n < l.length
      · have hsn : n < s.size := by rw [Hsz.out]; exact hc
        have hc' : (n : Int) < (s.size : Int) := by omega
        have ex := HB.out n hsn hc
        have Hk : Hid (n ≤ 140737488351232) := Lib.hid (by omega)
        have Hsn := Lib.hid hsn
        by_cases hb : blkB l[n].toNat = true
        · have HE : Hid (blkS (rest l M.J at_) = blkS (rest l M.J (nx M.J n))) := Lib.hid (by rw [hE.out, blkS_blk HJ'.out hc hb])
          have Hnx := Lib.hid (nx_gt HJ'.out n)
          have Hnx2 := Lib.hid (nx_le HJ'.out hc)
          have hK := Lib.hid (fun w => HK.out l[n].toNat w)
          rw [hb] at hK
          generalize l[n] = x at *
          clear han hnl HB hc hb hE
          go_wp2_with fail
          go_quiet ((go_at_call 31; exact quiet_at (hK.out _)))
          go_wp2_with fail
          refine (HST.out _ n Hk.out (S.out.gr ((Gr.refl _).drewN _))).mono ?_
          rintro e w2 ⟨rfl, hS2, hb2⟩
          have S2 := Lib.hid hS2
          have Bu2 := Lib.hid hb2
          clear hS2 hb2
          go_wp2_with fail
          go_roundw
          case rel => have := Han.out; have := Hnx.out; exact ⟨nx M.J n, by omega, Hnx2.out, S2.out, (Bu.out.trans (But.of_gr ((Gr.refl _).drewN _))).trans Bu2.out, HE⟩
          case measure =>
            have := Hsn.out
            have := Hnx.out
            rw [S.out.left, S2.out.left]
            omega
        · have hb' : blkB l[n].toNat = false := by simpa using hb
          have HE : Hid (blkS (rest l M.J at_) = (n, l[n]) :: rest l M.J (nx M.J n)) := Lib.hid (by rw [hE.out, blkS_stop HJ'.out (fun _ => hb'), rest_cons HJ'.out hc])
          have hK := Lib.hid (fun w => HK.out l[n].toNat w)
          rw [hb'] at hK
          have hDL := Lib.hid (fun w => HDL.out l[n].toNat w)
          have hne : ((n : Int) == (s.size : Int)) = false := by simp; omega
          have hne2 : (n == s.size) = false := by simp; omega
          have hne3 : ¬ n = s.size := by omega
          have hne4 : ¬ (n : Int) = (s.size : Int) := by omega
          by_cases hdl : delimB l[n].toNat = true
          · rw [hdl] at hDL
            have Hdl := Lib.hid hdl
            have hn10 : nx M.J n = n + 1 := by
              unfold nx
              cases e2 : M.J n with
              | none => rfl
              | some v =>
                have := HJ'.out.nl n v e2
                rw [List.getElem?_eq_getElem hc] at this
                have := Option.some.inj this
                rw [this] at hdl
                exact absurd hdl (by decide)
            rw [hn10] at HE
            obtain ⟨n1, hn1⟩ : ∃ n1, n1 = n + 1 := ⟨_, rfl⟩
            rw [← hn1] at HE
            have hn1' : (n : Int) + 1 = (n1 : Int) := by omega
            have hw1 : IntKind.i64.wrap (n1 : Int) = (n1 : Int) := by rw [IntKind.wrap_i64]; omega
            have Hn1 := Lib.hid hn1
            have hdl2 : delimB (l[n].toNat : Int) = true := hdl
            have hQs : Q < w.heap.size := hQB
            cases hY : partS l[n] (partU l[n]) 0 (rest l M.J n1) with
            | none =>
              have HXX : Hid (X = none) := Lib.hid (by rw [HX.out, ← Hl.out, HE.out, secondT]; simp only; rw [if_pos hdl, hY]; rfl)
              have HPt := Lib.hid (fun (W : World) (hS : Sc W P M s n1 en tm tv bv ov) (hq : Quo W Q P fr l[n]) => part_no hS hq hQP hs HJ.out (by rw [← Hl.out]; have := Hn1.out; omega) Hfr.out Hdl.out (by rw [← Hl.out]; exact hY))
              generalize l[n] = x at *
              clear han hnl HB hc hb hE hY hn1 hdl hdl2 hl
              clear hn10
              go_wp2_with fail
              go_quiet ((go_at_call 31; exact quiet_at (hK.out _)))
              go_wp2_with fail
              have SW := Lib.hid (S.out.gr ((Gr.refl wr).drewN nq))
              have QW := Lib.hid (Quo_gr Qn.out ((Gr.refl wr).drewN nq))
              have BW := Lib.hid (Bu.out.trans (But.of_gr ((Gr.refl wr).drewN nq)))
              clear c0 c1 c2 c3 c4 c5 c6 c7 cf q0 q1 q2
              generalize wr.drewN nq = W1 at *
              obtain ⟨c0, c1, c2, c3, c4, c5, c6, c7, cf⟩ := SW.out.cells
              obtain ⟨q0, q1, q2⟩ := Quo.cells QW.out
              have qf := Quo_frz QW.out
              go_quiet ((go_at_call 64; exact quiet_at (hDL.out _)))
              go_wp2_with fail
              have SX := Lib.hid (SW.out.gr ((Gr.refl W1).drewN nq))
              have QX := Lib.hid (Quo_gr QW.out ((Gr.refl W1).drewN nq))
              have BX := Lib.hid (BW.out.trans (But.of_gr ((Gr.refl W1).drewN nq)))
              clear c0 c1 c2 c3 c4 c5 c6 c7 cf q0 q1 q2 qf
              generalize W1.drewN nq = W2 at *
              obtain ⟨c0, c1, c2, c3, c4, c5, c6, c7, cf⟩ := SX.out.cells
              obtain ⟨q0, q1, q2⟩ := Quo.cells QX.out
              have qf := Quo_frz QX.out
              go_big_region
              obtain ⟨X3, hX3⟩ : ∃ X3, X3 = (W2.setCell ⟨Q, 2, none⟩ (.int .u8 (x.toNat : Int))).drew := ⟨_, rfl⟩
              rw [← hX3]
              have SY : Hid (Sc X3 P M s n en tm tv bv ov) := Lib.hid (by rw [hX3]; exact (SX.out.other hQP hQM).gr ((Gr.refl _).drew))
              have QY : Hid (Quo X3 Q P fr x) := Lib.hid (by rw [hX3]; exact Quo_gr (Quo_setO QX.out x) ((Gr.refl _).drew))
              have BY : Hid (Bt P Q w X3) := Lib.hid (by rw [hX3]; exact (Bt.of_but BX.out).trans ((Bt.of_but2 (But.set 2 _)).trans (Bt.of_gr ((Gr.refl _).drew))))
              clear hX3 c0 c1 c2 c3 c4 c5 c6 c7 cf q0 q1 q2 qf
              obtain ⟨c0, c1, c2, c3, c4, c5, c6, c7, cf⟩ := SY.out.cells
              obtain ⟨q0, q1, q2⟩ := Quo.cells QY.out
              go_wp2_with fail
              have BS : But P X3 (X3.setCell ⟨P, 1, none⟩ (.int .i64 (n1 : Int))) := But.set 1 _
              have SZ := Lib.hid (SY.out.setAt n1)
              have QZ := Lib.hid (QY.out.but BS hQP)
              have BZ := Lib.hid (BY.out.trans (Bt.of_but BS))
              clear BS c0 c1 c2 c3 c4 c5 c6 c7 cf q0 q1 q2 hw1 hn1'
              refine (HPt.out _ SZ.out QZ.out).mono ?_
              rintro e w2 ⟨⟨q, hq, rfl⟩, hb2⟩
              go_wp2_with fail
              refine ⟨rfl, ?_⟩
              rw [HXX.out]
              exact ⟨⟨q, hq, rfl⟩, BZ.out.trans (Bt.of_but hb2)⟩
            | some r =>
              obtain ⟨raw, R⟩ := r
              have HXX : Hid (X = some (l[n], raw, R)) := Lib.hid (by rw [HX.out, ← Hl.out, HE.out, secondT]; simp only; rw [if_pos hdl, hY]; rfl)
              have HPt := Lib.hid (fun (W : World) (hS : Sc W P M s n1 en tm tv bv ov) (hq : Quo W Q P fr l[n]) => part_ok hS hq hQP hs HJ.out (by rw [← Hl.out]; have := Hn1.out; omega) Hfr.out Hdl.out (by rw [← Hl.out]; exact hY))
              generalize l[n] = x at *
              clear han hnl HB hc hb hE hY hn1 hdl hdl2 hl
              clear hn10
              go_wp2_with fail
              go_quiet ((go_at_call 31; exact quiet_at (hK.out _)))
              go_wp2_with fail
              have SW := Lib.hid (S.out.gr ((Gr.refl wr).drewN nq))
              have QW := Lib.hid (Quo_gr Qn.out ((Gr.refl wr).drewN nq))
              have BW := Lib.hid (Bu.out.trans (But.of_gr ((Gr.refl wr).drewN nq)))
              clear c0 c1 c2 c3 c4 c5 c6 c7 cf q0 q1 q2
              generalize wr.drewN nq = W1 at *
              obtain ⟨c0, c1, c2, c3, c4, c5, c6, c7, cf⟩ := SW.out.cells
              obtain ⟨q0, q1, q2⟩ := Quo.cells QW.out
              have qf := Quo_frz QW.out
              go_quiet ((go_at_call 64; exact quiet_at (hDL.out _)))
              go_wp2_with fail
              have SX := Lib.hid (SW.out.gr ((Gr.refl W1).drewN nq))
              have QX := Lib.hid (Quo_gr QW.out ((Gr.refl W1).drewN nq))
              have BX := Lib.hid (BW.out.trans (But.of_gr ((Gr.refl W1).drewN nq)))
              clear c0 c1 c2 c3 c4 c5 c6 c7 cf q0 q1 q2 qf
              generalize W1.drewN nq = W2 at *
              obtain ⟨c0, c1, c2, c3, c4, c5, c6, c7, cf⟩ := SX.out.cells
              obtain ⟨q0, q1, q2⟩ := Quo.cells QX.out
              have qf := Quo_frz QX.out
              go_big_region
              obtain ⟨X3, hX3⟩ : ∃ X3, X3 = (W2.setCell ⟨Q, 2, none⟩ (.int .u8 (x.toNat : Int))).drew := ⟨_, rfl⟩
              rw [← hX3]
              have SY : Hid (Sc X3 P M s n en tm tv bv ov) := Lib.hid (by rw [hX3]; exact (SX.out.other hQP hQM).gr ((Gr.refl _).drew))
              have QY : Hid (Quo X3 Q P fr x) := Lib.hid (by rw [hX3]; exact Quo_gr (Quo_setO QX.out x) ((Gr.refl _).drew))
              have BY : Hid (Bt P Q w X3) := Lib.hid (by rw [hX3]; exact (Bt.of_but BX.out).trans ((Bt.of_but2 (But.set 2 _)).trans (Bt.of_gr ((Gr.refl _).drew))))
              clear hX3 c0 c1 c2 c3 c4 c5 c6 c7 cf q0 q1 q2 qf
              obtain ⟨c0, c1, c2, c3, c4, c5, c6, c7, cf⟩ := SY.out.cells
              obtain ⟨q0, q1, q2⟩ := Quo.cells QY.out
              go_wp2_with fail
              have BS : But P X3 (X3.setCell ⟨P, 1, none⟩ (.int .i64 (n1 : Int))) := But.set 1 _
              have SZ := Lib.hid (SY.out.setAt n1)
              have QZ := Lib.hid (QY.out.but BS hQP)
              have BZ := Lib.hid (BY.out.trans (Bt.of_but BS))
              clear BS c0 c1 c2 c3 c4 c5 c6 c7 cf q0 q1 q2 hw1 hn1'
              refine (HPt.out _ SZ.out QZ.out).mono ?_
              rintro e w2 ⟨b, rfl, hS2, hb2, hR, hab, hbl, hlen⟩
              have S2 := Lib.hid hS2
              have B2 := Lib.hid hb2
              have HR := Lib.hid hR
              have Hab := Lib.hid hab
              have Hbl := Lib.hid hbl
              have Hlen := Lib.hid hlen
              clear hS2 hb2 hR hab hbl hlen
              go_wp2
              go_ret
              rw [HXX.out]
              have := Hn1.out
              have := Hab.out
              have := Han.out
              exact ⟨b, rfl, S2.out, QZ.out.but B2.out hQP, BZ.out.trans (Bt.of_but B2.out), HR.out, by omega, Hbl.out, Hlen.out⟩
          · have hdl' : delimB l[n].toNat = false := by simpa using hdl
            rw [hdl'] at hDL
            have HXX : Hid (X = none) := Lib.hid (by rw [HX.out, ← Hl.out, HE.out, secondT]; simp only; rw [if_neg hdl])
            generalize l[n] = x at *
            clear han hnl HB hc hb hE hdl hl
            go_wp2_with fail
            go_quiet ((go_at_call 31; exact quiet_at (hK.out _)))
            go_wp2_with fail
            have SW := Lib.hid (S.out.gr ((Gr.refl wr).drewN nq))
            have QW := Lib.hid (Quo_gr Qn.out ((Gr.refl wr).drewN nq))
            have BW := Lib.hid (Bu.out.trans (But.of_gr ((Gr.refl wr).drewN nq)))
            clear c0 c1 c2 c3 c4 c5 c6 c7 cf q0 q1 q2
            generalize wr.drewN nq = W1 at *
            obtain ⟨c0, c1, c2, c3, c4, c5, c6, c7, cf⟩ := SW.out.cells
            obtain ⟨q0, q1, q2⟩ := Quo.cells QW.out
            have qf := Quo_frz QW.out
            go_quiet ((go_at_call 64; exact quiet_at (hDL.out _)))
            go_wp2_with fail
            refine ⟨rfl, ?_⟩
            rw [HXX.out]
            exact ⟨⟨fr, Hfr.out, rfl⟩, Bt.of_but (BW.out.trans (But.of_gr ((Gr.refl _).drewN _)))⟩
      · have g1 : decide (n < s.size) = false := by rw [Hsz.out]; simpa using hc
        have g2 : decide ((n : Int) < (s.size : Int)) = false := by rw [Hsz.out]; simp; omega
        have hns : n = s.size := by have := Hsz.out; omega
        have g3 : ((n : Int) == (s.size : Int)) = true := by rw [hns]; simp
        have g4 : (n == s.size) = true := by rw [hns]; simp
        have HXX : Hid (X = none) := Lib.hid (by rw [HX.out, ← Hl.out, hE.out, rest_nil (by omega)]; rfl)
        have hK := HK
        clear hE HB hc hnl han hl hns
        go_wp2_with fail
        go_quiet (fail)
        go_wp2_with fail
        have SW := Lib.hid (S.out.gr ((Gr.refl wr).drewN nq))
        have QW := Lib.hid (Quo_gr Qn.out ((Gr.refl wr).drewN nq))
        have BW := Lib.hid (Bu.out.trans (But.of_gr ((Gr.refl wr).drewN nq)))
        clear c0 c1 c2 c3 c4 c5 c6 c7 cf q0 q1 q2
        generalize wr.drewN nq = W1 at *
        obtain ⟨c0, c1, c2, c3, c4, c5, c6, c7, cf⟩ := SW.out.cells
        obtain ⟨q0, q1, q2⟩ := Quo.cells QW.out
        have qf := Quo_frz QW.out
        go_quiet (fail)
        go_wp2_with fail
        refine ⟨rfl, ?_⟩
        rw [HXX.out]
        exact ⟨⟨fr, Hfr.out, rfl⟩, Bt.of_but (BW.out.trans (But.of_gr ((Gr.refl _).drewN _)))⟩
end Go.Proofs.YthmopindibdhnaaDoor.G
