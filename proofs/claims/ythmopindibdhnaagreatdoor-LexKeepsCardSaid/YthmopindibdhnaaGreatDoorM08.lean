/- GSign GPart -/
import Derived.Test.YthmopindibdhnaaGreatDoorM07
import Derived.Test.YthmopindibdhnaaGreatDoorM06
namespace Go.Proofs.YthmopindibdhnaaGreatDoor.G
open Go.RowKit Go.Shelf Go.Maps
variable {w w' : World} {P : Nat} {M : GoMap} {s : ByteArray} {at_ en : Nat} {tm : Bool} {tv bv ov : Value}
set_option maxRecDepth 100000 in
set_option maxHeartbeats 1000000 in
theorem sign_of (h : Sc w P M s at_ en tm tv bv ov) (hs : s.size ≤ 140737488351232) (x : UInt8) (hx : s.data.toList[at_]? = some x) (hn : signN (s.data.toList.drop at_) = 0) (d : UInt8) (hd : s.data.toList[at_ + 1]? = some d) (ht : tm = true) (hc : x = 36 ∨ x = 64) (hdd : d = 36 ∨ d = 123) :
    Calls Tryz.prog 106 #[.pointer (some ⟨P, 0, none⟩)] w fun e w' => e = .returned (tok 3 (s.extract at_ (at_ + 1))).val ∧ Sc w' P M s (at_ + 1) en tm tv bv ov ∧ But P w w' := by
  have H := Lib.hid h
  have hL : at_ < s.data.toList.length := (List.getElem?_eq_some_iff.1 hx).1
  have hat : at_ < s.size := by rw [sizeL] at hL; exact hL
  have HI := Lib.hid isSign_p
  obtain ⟨r, hr⟩ : ∃ r, r = s.extract at_ s.size := ⟨_, rfl⟩
  have hrs : r.size = s.size - at_ := by rw [hr]; simp [ByteArray.size_extract]
  have hrl : r.data.toList = s.data.toList.drop at_ := by rw [hr, dropE]
  have HE : Hid (∀ k : Nat, (r.extract 0 k).data.toList = r.data.toList.take k) := Lib.hid (fun k => by rw [extractE]; simp)
  have hmin : signN (s.data.toList.drop at_) = signGo r.data.toList (min 3 r.size) := by rw [signN, ← hrl, sizeL]
  rw [hmin] at hn
  have HR : Hid (0 = signGo r.data.toList (min 3 r.size)) := Lib.hid hn.symm
  have hr0 : 0 < r.size := by omega
  have hr0' : (0 : Int) < (r.size : Int) := by omega
  have er : r[0] = x := by
    have hrL : 0 < r.data.toList.length := by rw [sizeL]; exact hr0
    rw [byteE r 0 hr0 hrL]
    have : r.data.toList[0]? = some x := by rw [hrl, List.getElem?_drop]; exact hx
    exact (List.getElem?_eq_some_iff.1 this).2
  have HT := Lib.hid (fun (W : World) (hS : Sc W P M s at_ en tm tv bv ov) => take_m hS 1 (by omega) hs)
  have hd1 : at_ + 1 < s.size := by have := (List.getElem?_eq_some_iff.1 hd).1; rw [sizeL] at this; exact this
  have hr1 : 1 < r.size := by omega
  have er1 : r[1] = d := by
    have hrL : 1 < r.data.toList.length := by rw [sizeL]; exact hr1
    rw [byteE r 1 hr1 hrL]
    have : r.data.toList[1]? = some d := by rw [hrl, List.getElem?_drop]; exact hd
    exact (List.getElem?_eq_some_iff.1 this).2
  have Hr1 := Lib.hid hr1
  have Her1 := Lib.hid er1
  clear er1 hd hd1

  have b0 : (at_ : Int) ≤ (s.size : Int) := by omega
  have hP : P < w.heap.size := h.lt.1
  have hM : M.blk < w.heap.size := h.lt.2
  have Hr := Lib.hid hr
  have Hrs := Lib.hid hrs
  have Hat := Lib.hid hat
  have Hr0 := Lib.hid hr0
  have Her := Lib.hid er
  clear h hn hmin hrl hrs hx er
  go_enter Tryz.func106, Tryz.ntmps106
  go_wp2_with fail
  generalize hW : w.alloc (.cells #[.int .i64 0, .int .i64 0, .string ⟨#[]⟩, .string ⟨#[]⟩, .string ⟨#[]⟩, .int .i64 0] 42) = W1
  have G1 : Hid (Gr w W1) := Lib.hid (by rw [← hW]; exact (Gr.refl w).alloc _)
  have K1 : Hid (W1.heap[w.heap.size]? = some (.cells #[.int .i64 0, .int .i64 0, .string ⟨#[]⟩, .string ⟨#[]⟩, .string ⟨#[]⟩, .int .i64 0] 42 (0, 0))) := Lib.hid (by rw [← hW]; exact heap_alloc_new w _)
  clear hW
  obtain ⟨c0, c1, c2, c3, c4, c5, c6, c7, cf⟩ := (H.out.gr G1.out).cells
  go_quiet (fail)
  clear c0 c1 c2 c3 c4 c5 c6 c7 cf
  rw [← hr]
  clear hr
  go_wp2_with fail
  go_loopw [4] (fun sc wr => ∃ k : Nat, sc = .int .i64 (k : Int) ∧ k ≤ r.size ∧ Gr W1 wr ∧ Hid (0 = signGo r.data.toList k)) (fun sc _ => nat0 sc)
  case atStart => exact ⟨min 3 r.size, by simp; omega, by omega, (Gr.refl _).drewN _, HR⟩
  case round =>
    obtain ⟨k, rfl, hk, hg, hR⟩ := hrel
    clear HR
    have Hg := Lib.hid hg
    clear hg
    cases k with
    | succ k =>
      have hkb : (k : Int) ≤ 9223372036854775807 := by have := Hrs.out; omega
      have hkc : -9223372036854775808 ≤ (k : Int) := by omega
      have hk1 : (0 : Int) < ((k + 1 : Nat) : Int) := by omega
      have hk2 : ((k + 1 : Nat) : Int) ≤ (r.size : Int) := by omega
      obtain ⟨m, hm⟩ : ∃ m, m = k + 1 := ⟨_, rfl⟩
      have hI := Lib.hid (fun w => HI.out (r.extract 0 (k + 1)) w)
      rw [HE.out] at hI
      have hb : isSignB (r.data.toList.take (k + 1)) = false := by
        cases hb : isSignB (r.data.toList.take (k + 1)) with
        | false => rfl
        | true => have := hR.out; rw [signGo, if_pos hb] at this; cases this
      have hE : Hid (0 = signGo r.data.toList k) := Lib.hid (by have := hR.out; rw [signGo, hb] at this; simpa using this)
      have hks : ((k + 1 : Nat) : Int) - 1 = (k : Int) := by omega
      rw [hb] at hI
      rw [← hm] at hI hk1 hk2 hks ⊢
      have Hm := Lib.hid hm
      clear hb hR HI HE hm
      go_wp2_with fail
      refine (hI.out _).mono ?_
      rintro e w2 ⟨rfl, rfl⟩
      go_wp2_with fail
      go_roundw
      case rel => exact ⟨k, rfl, by omega, Hg.out, hE⟩
      case measure => have := Hm.out; simp only [nat0]; omega
    | zero =>
      have hr0b := Hr0.out
      have hr0' : (0 : Int) < (r.size : Int) := by omega
      have er := Her.out
      obtain ⟨c0, c1, c2, c3, c4, c5, c6, c7, cf⟩ := (H.out.gr (Gr.trans G1.out Hg.out)).cells
      have hr1b := Hr1.out
      have hr1' : (1 : Int) < (r.size : Int) := by omega
      have er1 := Her1.out
      have S1 := Lib.hid (H.out.gr (Gr.trans G1.out Hg.out))
      have K1' := Lib.hid ((Hg.out.block _ (Array.getElem?_eq_some_iff.1 K1.out).1).trans K1.out)
      have B1 := Lib.hid (But.of_gr (P := P) (Gr.trans G1.out Hg.out))
      subst ht
      have h4 : (((x.toNat : Int) == 36) = true) ∨ (((x.toNat : Int) == 36) = false ∧ ((x.toNat : Int) == 64) = true) := by
        rcases hc with rfl | rfl
        · exact .inl rfl
        · exact .inr ⟨rfl, rfl⟩
      have h5 : (((d.toNat : Int) == 36) = true) ∨ (((d.toNat : Int) == 36) = false ∧ ((d.toNat : Int) == 123) = true) := by
        rcases hdd with rfl | rfl
        · exact .inl rfl
        · exact .inr ⟨rfl, rfl⟩
      clear hc hdd hR K1 HI HE
      rcases h4 with h4 | ⟨h4, h4'⟩ <;> rcases h5 with h5 | ⟨h5, h5'⟩
      all_goals
        go_wp2_with fail
        refine (HT.out _ S1.out).mono ?_
        rintro e w2 ⟨rfl, hS2, hb2⟩
        have K2 := Lib.hid ((hb2.block _ (Array.getElem?_eq_some_iff.1 K1'.out).1 (by simp; omega)).trans K1'.out)
        have B2 := Lib.hid (B1.out.trans hb2)
        have S2 := Lib.hid hS2
        clear hS2 hb2 K1' S1 B1 c0 c1 c2 c3 c4 c5 c6 c7 cf
        go_wp2_with (refine wpList_store_tok rfl (.tmp 2) (.tmp 60) rfl (t := tok 3 (s.extract at_ (at_ + 1))) rfl rfl K2.out rfl ?_)
        intro W3 hb3 hk3
        have B3 := Lib.hid hb3
        have K3 := Lib.hid hk3
        clear hb3 hk3
        go_wp2_with fail
        refine bodyPost_ret (results_tok rfl rfl K3.out) rfl ?_
        exact ⟨rfl, S2.out.but B3.out (by omega) (by omega), B2.out.late (Nat.le_refl _) B3.out⟩
set_option maxRecDepth 100000 in
set_option maxHeartbeats 1000000 in
theorem sign_bad1 (h : Sc w P M s at_ en tm tv bv ov) (hs : s.size ≤ 140737488351232) (x : UInt8) (hx : s.data.toList[at_]? = some x) (hn : signN (s.data.toList.drop at_) = 0) (hc : tm = false ∨ (x ≠ 36 ∧ x ≠ 64) ∨ at_ + 1 = s.size) :
    Calls Tryz.prog 106 #[.pointer (some ⟨P, 0, none⟩)] w fun e w' => Bad s e ∧ But P w w' := by
  have H := Lib.hid h
  have hL : at_ < s.data.toList.length := (List.getElem?_eq_some_iff.1 hx).1
  have hat : at_ < s.size := by rw [sizeL] at hL; exact hL
  have HI := Lib.hid isSign_p
  obtain ⟨r, hr⟩ : ∃ r, r = s.extract at_ s.size := ⟨_, rfl⟩
  have hrs : r.size = s.size - at_ := by rw [hr]; simp [ByteArray.size_extract]
  have hrl : r.data.toList = s.data.toList.drop at_ := by rw [hr, dropE]
  have HE : Hid (∀ k : Nat, (r.extract 0 k).data.toList = r.data.toList.take k) := Lib.hid (fun k => by rw [extractE]; simp)
  have hmin : signN (s.data.toList.drop at_) = signGo r.data.toList (min 3 r.size) := by rw [signN, ← hrl, sizeL]
  rw [hmin] at hn
  have HR : Hid (0 = signGo r.data.toList (min 3 r.size)) := Lib.hid hn.symm
  have hr0 : 0 < r.size := by omega
  have hr0' : (0 : Int) < (r.size : Int) := by omega
  have er : r[0] = x := by
    have hrL : 0 < r.data.toList.length := by rw [sizeL]; exact hr0
    rw [byteE r 0 hr0 hrL]
    have : r.data.toList[0]? = some x := by rw [hrl, List.getElem?_drop]; exact hx
    exact (List.getElem?_eq_some_iff.1 this).2

  have b0 : (at_ : Int) ≤ (s.size : Int) := by omega
  have hP : P < w.heap.size := h.lt.1
  have hM : M.blk < w.heap.size := h.lt.2
  have Hr := Lib.hid hr
  have Hrs := Lib.hid hrs
  have Hat := Lib.hid hat
  have Hr0 := Lib.hid hr0
  have Her := Lib.hid er
  clear h hn hmin hrl hrs hx er
  go_enter Tryz.func106, Tryz.ntmps106
  go_wp2_with fail
  generalize hW : w.alloc (.cells #[.int .i64 0, .int .i64 0, .string ⟨#[]⟩, .string ⟨#[]⟩, .string ⟨#[]⟩, .int .i64 0] 42) = W1
  have G1 : Hid (Gr w W1) := Lib.hid (by rw [← hW]; exact (Gr.refl w).alloc _)
  have K1 : Hid (W1.heap[w.heap.size]? = some (.cells #[.int .i64 0, .int .i64 0, .string ⟨#[]⟩, .string ⟨#[]⟩, .string ⟨#[]⟩, .int .i64 0] 42 (0, 0))) := Lib.hid (by rw [← hW]; exact heap_alloc_new w _)
  clear hW
  obtain ⟨c0, c1, c2, c3, c4, c5, c6, c7, cf⟩ := (H.out.gr G1.out).cells
  go_quiet (fail)
  clear c0 c1 c2 c3 c4 c5 c6 c7 cf
  rw [← hr]
  clear hr
  go_wp2_with fail
  go_loopw [4] (fun sc wr => ∃ k : Nat, sc = .int .i64 (k : Int) ∧ k ≤ r.size ∧ Gr W1 wr ∧ Hid (0 = signGo r.data.toList k)) (fun sc _ => nat0 sc)
  case atStart => exact ⟨min 3 r.size, by simp; omega, by omega, (Gr.refl _).drewN _, HR⟩
  case round =>
    obtain ⟨k, rfl, hk, hg, hR⟩ := hrel
    clear HR
    have Hg := Lib.hid hg
    clear hg
    cases k with
    | succ k =>
      have hkb : (k : Int) ≤ 9223372036854775807 := by have := Hrs.out; omega
      have hkc : -9223372036854775808 ≤ (k : Int) := by omega
      have hk1 : (0 : Int) < ((k + 1 : Nat) : Int) := by omega
      have hk2 : ((k + 1 : Nat) : Int) ≤ (r.size : Int) := by omega
      obtain ⟨m, hm⟩ : ∃ m, m = k + 1 := ⟨_, rfl⟩
      have hI := Lib.hid (fun w => HI.out (r.extract 0 (k + 1)) w)
      rw [HE.out] at hI
      have hb : isSignB (r.data.toList.take (k + 1)) = false := by
        cases hb : isSignB (r.data.toList.take (k + 1)) with
        | false => rfl
        | true => have := hR.out; rw [signGo, if_pos hb] at this; cases this
      have hE : Hid (0 = signGo r.data.toList k) := Lib.hid (by have := hR.out; rw [signGo, hb] at this; simpa using this)
      have hks : ((k + 1 : Nat) : Int) - 1 = (k : Int) := by omega
      rw [hb] at hI
      rw [← hm] at hI hk1 hk2 hks ⊢
      have Hm := Lib.hid hm
      clear hb hR HI HE hm
      go_wp2_with fail
      refine (hI.out _).mono ?_
      rintro e w2 ⟨rfl, rfl⟩
      go_wp2_with fail
      go_roundw
      case rel => exact ⟨k, rfl, by omega, Hg.out, hE⟩
      case measure => have := Hm.out; simp only [nat0]; omega
    | zero =>
      have hr0b := Hr0.out
      have hr0' : (0 : Int) < (r.size : Int) := by omega
      have er := Her.out
      obtain ⟨c0, c1, c2, c3, c4, c5, c6, c7, cf⟩ := (H.out.gr (Gr.trans G1.out Hg.out)).cells
      have B1 := Lib.hid (But.of_gr (P := P) (Gr.trans G1.out Hg.out))
      have h4 : tm = false ∨ (tm = true ∧ ((x.toNat : Int) == 36) = false ∧ ((x.toNat : Int) == 64) = false) ∨ (tm = true ∧ decide (1 < r.size) = false ∧ decide ((1 : Int) < (r.size : Int)) = false ∧ (((x.toNat : Int) == 36) = true ∨ (((x.toNat : Int) == 36) = false ∧ ((x.toNat : Int) == 64) = true))) := by
        cases tm with
        | false => exact .inl rfl
        | true =>
          by_cases h36 : x = 36 ∨ x = 64
          · rcases hc with hc | hc | hc
            · cases hc
            · rcases h36 with h | h
              · exact absurd h hc.1
              · exact absurd h hc.2
            · have := Hrs.out
              refine .inr (.inr ⟨rfl, by simp; omega, by simp; omega, ?_⟩)
              rcases h36 with rfl | rfl
              · exact .inl rfl
              · exact .inr ⟨rfl, rfl⟩
          · exact .inr (.inl ⟨rfl, u8_ne (k := 36) (fun e => h36 (.inl e)), u8_ne (k := 64) (fun e => h36 (.inr e))⟩)
      clear hc hR K1 HI HE
      rcases h4 with rfl | ⟨rfl, h5, h6⟩ | ⟨rfl, h5, h5', h6 | ⟨h6, h7⟩⟩
      all_goals
        go_wp2_with fail
        exact ⟨rfl, ⟨at_, Hat.out, rfl⟩, B1.out⟩
set_option maxRecDepth 100000 in
set_option maxHeartbeats 1000000 in
theorem sign_bad2 (h : Sc w P M s at_ en tm tv bv ov) (hs : s.size ≤ 140737488351232) (x : UInt8) (hx : s.data.toList[at_]? = some x) (hn : signN (s.data.toList.drop at_) = 0) (d : UInt8) (hd : s.data.toList[at_ + 1]? = some d) (hc : d ≠ 36 ∧ d ≠ 123) :
    Calls Tryz.prog 106 #[.pointer (some ⟨P, 0, none⟩)] w fun e w' => Bad s e ∧ But P w w' := by
  have H := Lib.hid h
  have hL : at_ < s.data.toList.length := (List.getElem?_eq_some_iff.1 hx).1
  have hat : at_ < s.size := by rw [sizeL] at hL; exact hL
  have HI := Lib.hid isSign_p
  obtain ⟨r, hr⟩ : ∃ r, r = s.extract at_ s.size := ⟨_, rfl⟩
  have hrs : r.size = s.size - at_ := by rw [hr]; simp [ByteArray.size_extract]
  have hrl : r.data.toList = s.data.toList.drop at_ := by rw [hr, dropE]
  have HE : Hid (∀ k : Nat, (r.extract 0 k).data.toList = r.data.toList.take k) := Lib.hid (fun k => by rw [extractE]; simp)
  have hmin : signN (s.data.toList.drop at_) = signGo r.data.toList (min 3 r.size) := by rw [signN, ← hrl, sizeL]
  rw [hmin] at hn
  have HR : Hid (0 = signGo r.data.toList (min 3 r.size)) := Lib.hid hn.symm
  have hr0 : 0 < r.size := by omega
  have hr0' : (0 : Int) < (r.size : Int) := by omega
  have er : r[0] = x := by
    have hrL : 0 < r.data.toList.length := by rw [sizeL]; exact hr0
    rw [byteE r 0 hr0 hrL]
    have : r.data.toList[0]? = some x := by rw [hrl, List.getElem?_drop]; exact hx
    exact (List.getElem?_eq_some_iff.1 this).2
  have hd1 : at_ + 1 < s.size := by have := (List.getElem?_eq_some_iff.1 hd).1; rw [sizeL] at this; exact this
  have hr1 : 1 < r.size := by omega
  have er1 : r[1] = d := by
    have hrL : 1 < r.data.toList.length := by rw [sizeL]; exact hr1
    rw [byteE r 1 hr1 hrL]
    have : r.data.toList[1]? = some d := by rw [hrl, List.getElem?_drop]; exact hd
    exact (List.getElem?_eq_some_iff.1 this).2
  have Hr1 := Lib.hid hr1
  have Her1 := Lib.hid er1
  clear er1 hd hd1

  have b0 : (at_ : Int) ≤ (s.size : Int) := by omega
  have hP : P < w.heap.size := h.lt.1
  have hM : M.blk < w.heap.size := h.lt.2
  have Hr := Lib.hid hr
  have Hrs := Lib.hid hrs
  have Hat := Lib.hid hat
  have Hr0 := Lib.hid hr0
  have Her := Lib.hid er
  clear h hn hmin hrl hrs hx er
  go_enter Tryz.func106, Tryz.ntmps106
  go_wp2_with fail
  generalize hW : w.alloc (.cells #[.int .i64 0, .int .i64 0, .string ⟨#[]⟩, .string ⟨#[]⟩, .string ⟨#[]⟩, .int .i64 0] 42) = W1
  have G1 : Hid (Gr w W1) := Lib.hid (by rw [← hW]; exact (Gr.refl w).alloc _)
  have K1 : Hid (W1.heap[w.heap.size]? = some (.cells #[.int .i64 0, .int .i64 0, .string ⟨#[]⟩, .string ⟨#[]⟩, .string ⟨#[]⟩, .int .i64 0] 42 (0, 0))) := Lib.hid (by rw [← hW]; exact heap_alloc_new w _)
  clear hW
  obtain ⟨c0, c1, c2, c3, c4, c5, c6, c7, cf⟩ := (H.out.gr G1.out).cells
  go_quiet (fail)
  clear c0 c1 c2 c3 c4 c5 c6 c7 cf
  rw [← hr]
  clear hr
  go_wp2_with fail
  go_loopw [4] (fun sc wr => ∃ k : Nat, sc = .int .i64 (k : Int) ∧ k ≤ r.size ∧ Gr W1 wr ∧ Hid (0 = signGo r.data.toList k)) (fun sc _ => nat0 sc)
  case atStart => exact ⟨min 3 r.size, by simp; omega, by omega, (Gr.refl _).drewN _, HR⟩
  case round =>
    obtain ⟨k, rfl, hk, hg, hR⟩ := hrel
    clear HR
    have Hg := Lib.hid hg
    clear hg
    cases k with
    | succ k =>
      have hkb : (k : Int) ≤ 9223372036854775807 := by have := Hrs.out; omega
      have hkc : -9223372036854775808 ≤ (k : Int) := by omega
      have hk1 : (0 : Int) < ((k + 1 : Nat) : Int) := by omega
      have hk2 : ((k + 1 : Nat) : Int) ≤ (r.size : Int) := by omega
      obtain ⟨m, hm⟩ : ∃ m, m = k + 1 := ⟨_, rfl⟩
      have hI := Lib.hid (fun w => HI.out (r.extract 0 (k + 1)) w)
      rw [HE.out] at hI
      have hb : isSignB (r.data.toList.take (k + 1)) = false := by
        cases hb : isSignB (r.data.toList.take (k + 1)) with
        | false => rfl
        | true => have := hR.out; rw [signGo, if_pos hb] at this; cases this
      have hE : Hid (0 = signGo r.data.toList k) := Lib.hid (by have := hR.out; rw [signGo, hb] at this; simpa using this)
      have hks : ((k + 1 : Nat) : Int) - 1 = (k : Int) := by omega
      rw [hb] at hI
      rw [← hm] at hI hk1 hk2 hks ⊢
      have Hm := Lib.hid hm
      clear hb hR HI HE hm
      go_wp2_with fail
      refine (hI.out _).mono ?_
      rintro e w2 ⟨rfl, rfl⟩
      go_wp2_with fail
      go_roundw
      case rel => exact ⟨k, rfl, by omega, Hg.out, hE⟩
      case measure => have := Hm.out; simp only [nat0]; omega
    | zero =>
      have hr0b := Hr0.out
      have hr0' : (0 : Int) < (r.size : Int) := by omega
      have er := Her.out
      obtain ⟨c0, c1, c2, c3, c4, c5, c6, c7, cf⟩ := (H.out.gr (Gr.trans G1.out Hg.out)).cells
      have hr1b := Hr1.out
      have hr1' : (1 : Int) < (r.size : Int) := by omega
      have er1 := Her1.out
      have B1 := Lib.hid (But.of_gr (P := P) (Gr.trans G1.out Hg.out))
      have d1 : ((d.toNat : Int) == 36) = false := u8_ne (k := 36) hc.1
      have d2 : ((d.toNat : Int) == 123) = false := u8_ne (k := 123) hc.2
      have h4 : tm = false ∨ (tm = true ∧ ((x.toNat : Int) == 36) = false ∧ ((x.toNat : Int) == 64) = false) ∨ (tm = true ∧ (((x.toNat : Int) == 36) = true ∨ (((x.toNat : Int) == 36) = false ∧ ((x.toNat : Int) == 64) = true))) := by
        cases tm with
        | false => exact .inl rfl
        | true =>
          by_cases h36 : x = 36
          · subst h36; exact .inr (.inr ⟨rfl, .inl rfl⟩)
          · by_cases h64 : x = 64
            · subst h64; exact .inr (.inr ⟨rfl, .inr ⟨rfl, rfl⟩⟩)
            · exact .inr (.inl ⟨rfl, u8_ne (k := 36) h36, u8_ne (k := 64) h64⟩)
      clear hc hR K1 HI HE
      rcases h4 with rfl | ⟨rfl, h5, h6⟩ | ⟨rfl, h6 | ⟨h6, h7⟩⟩
      all_goals
        go_wp2_with fail
        exact ⟨rfl, ⟨at_, Hat.out, rfl⟩, B1.out⟩
end Go.Proofs.YthmopindibdhnaaGreatDoor.G
namespace Go.Proofs.YthmopindibdhnaaGreatDoor.G
open Go.RowKit Go.Shelf Go.Maps
theorem map_none {α β : Type} {f : α → β} {X : Option α} (h : X = none) : X.map f = none := by rw [h]; rfl
section
variable {l : List UInt8} {J : Nat → Option Nat} {o e : UInt8} {d n : Nat}
theorem partS_nil : partS o e d [] = none := by rw [partS]
theorem partS_one (x : Nat × UInt8) : partS o e d [x] = if x.2 = e ∧ d = 0 then some ([], []) else none := by rw [partS]
theorem partS_esc (hJ : JOk l J) (h : n < l.length) (h2 : nx J n < l.length) (hc : l[n] = 92) : partS o e d (rest l J n) = (partS o e d (rest l J (nx J (nx J n)))).map fun r => (l[n] :: l[nx J n] :: r.1, r.2) := by
  rw [rest_cons hJ h, rest_cons hJ h2, partS, if_pos hc]
theorem partS_end0 (hJ : JOk l J) (h : n < l.length) (hb : l[n] ≠ 92) (hc : l[n] = e) : partS o e 0 (rest l J n) = some ([], rest l J (nx J n)) := by
  rw [rest_cons hJ h]
  by_cases h2 : nx J n < l.length
  · rw [rest_cons hJ h2, partS, if_neg hb, if_pos hc, if_pos rfl]
  · rw [rest_nil (by omega), partS_one, if_pos ⟨hc, rfl⟩]
theorem partS_endS (hJ : JOk l J) (h : n < l.length) (hb : l[n] ≠ 92) (hc : l[n] = e) : partS o e (d + 1) (rest l J n) = (partS o e d (rest l J (nx J n))).map fun r => (l[n] :: r.1, r.2) := by
  rw [rest_cons hJ h]
  by_cases h2 : nx J n < l.length
  · rw [rest_cons hJ h2, partS, if_neg hb, if_pos hc, if_neg (by omega)]; rfl
  · rw [rest_nil (a := nx J n) (by omega), partS_one, if_neg (by omega), partS_nil]; rfl
theorem partS_open (hJ : JOk l J) (h : n < l.length) (hb : l[n] ≠ 92) (hc : l[n] ≠ e) (ho : l[n] = o) : partS o e d (rest l J n) = (partS o e (d + 1) (rest l J (nx J n))).map fun r => (l[n] :: r.1, r.2) := by
  rw [rest_cons hJ h]
  by_cases h2 : nx J n < l.length
  · rw [rest_cons hJ h2, partS, if_neg hb, if_neg hc, if_pos ho]
  · rw [rest_nil (a := nx J n) (by omega), partS_one, if_neg (fun h => hc h.1), partS_nil]; rfl
theorem partS_else (hJ : JOk l J) (h : n < l.length) (hb : l[n] = 92 → ¬ nx J n < l.length) (hc : l[n] ≠ e) (ho : l[n] ≠ o) : partS o e d (rest l J n) = (partS o e d (rest l J (nx J n))).map fun r => (l[n] :: r.1, r.2) := by
  rw [rest_cons hJ h]
  by_cases h2 : nx J n < l.length
  · rw [rest_cons hJ h2, partS, if_neg (fun e2 => hb e2 h2), if_neg hc, if_neg ho]
  · rw [rest_nil (a := nx J n) (by omega), partS_one, if_neg (fun h => hc h.1), partS_nil]; rfl
end
variable {w w' : World} {P : Nat} {M : GoMap} {s : ByteArray} {at_ en : Nat} {tm : Bool} {tv bv ov : Value} {o e : UInt8}
/-- what the reading of a part leaves -/
def PartP (s : ByteArray) (P : Nat) (M : GoMap) (en : Nat) (tm : Bool) (tv bv ov : Value) (a : Nat) (w : World) (X : Option (List UInt8 × Src)) (e : Ending) (w' : World) : Prop :=
  match X with
  | none => Bad s e ∧ But P w w'
  | some r => ∃ b, e = .returned (.string ⟨r.1.toArray⟩) ∧ Sc w' P M s b en tm tv bv ov ∧ But P w w' ∧ r.2 = rest s.data.toList M.J b ∧ a < b ∧ b ≤ s.data.toList.length ∧ r.1.length ≤ b
set_option maxRecDepth 100000 in
set_option maxHeartbeats 2000000 in
theorem part_g {Q fr : Nat} (h : Sc w P M s at_ en tm tv bv ov) (hq : Quo w Q P fr o) (hQP : Q ≠ P) (hs : s.size ≤ 140737488351232) (hJ : JOk s.data.toList M.J) (ha : at_ ≤ s.data.toList.length) (hfr : fr < s.size) (he : (e.toNat : Int) = partI o.toNat) (he92 : e ≠ 92) (ho92 : o ≠ 92) (X : Option (List UInt8 × Src)) (hX : X = partS o e 0 (rest s.data.toList M.J at_)) :
    Calls Tryz.prog 125 #[.pointer (some ⟨Q, 0, none⟩)] w (PartP s P M en tm tv bv ov at_ w X) := by
  have H := Lib.hid h
  have HQ := Lib.hid hq
  have HP := Lib.hid (fun w => part_p o.toNat w)
  rw [← he] at HP
  obtain ⟨l, hl⟩ : ∃ l, l = s.data.toList := ⟨_, rfl⟩
  have hsz : s.size = l.length := by rw [hl, ← sizeL]
  have HB := Lib.hid (fun n (h : n < s.size) (h' : n < l.length) => (show s[n] = l[n] by subst hl; exact byteE s n h h'))
  rw [← hl] at hJ ha hX
  have Hl := Lib.hid hl
  have HJ := Lib.hid hJ
  have Hsz := Lib.hid hsz
  have HX : Hid (X = (partS o e 0 (rest l M.J at_)).map fun r => ([] ++ r.1, r.2)) := Lib.hid (by rw [hX]; cases partS o e 0 (rest l M.J at_) <;> rfl)
  have Hfr := Lib.hid hfr
  have Ha := Lib.hid ha
  have hPB : P < w.heap.size := h.lt.1
  have hMB : M.blk < w.heap.size := h.lt.2
  have hQB : Q < w.heap.size := (Array.getElem?_eq_some_iff.1 hq).1
  have HST := Lib.hid (fun (W : World) (k : Nat) (hk : k ≤ 140737488351232) (hS : Sc W P M s k en tm tv bv ov) => step_m hS hk)
  clear h hq he hl hsz hJ ha hX hfr
  go_enter Tryz.func125, Tryz.ntmps125
  obtain ⟨q0, q1, q2⟩ := (HQ.out.but (But.of_gr ((Gr.refl w).alloc (.cells #[.pointer none, .slice none 0 0] 74))) hQP).cells
  go_wp2_with fail
  refine (HP.out _).mono ?_
  rintro e w1 ⟨rfl, rfl⟩
  go_wp2_with fail
  generalize hW : w.alloc (.cells #[.pointer none, .slice none 0 0] 74) = W1 at *
  have G1 : Hid (Gr w W1) := Lib.hid (by rw [← hW]; exact (Gr.refl w).alloc _)
  have hBl : Hid (Bld w.heap.size [] W1) := Lib.hid (by rw [← hW]; exact bld_new w)
  have hsz1 : Hid (W1.heap.size = w.heap.size + 1) := Lib.hid (by rw [← hW]; simp)
  clear hW q0 q1 q2 HP
  go_loopw [5, 6] (fun pv _ wr => ∃ (d n : Nat) (acc : List UInt8), pv = .int .i64 (d : Int) ∧ at_ ≤ n ∧ d ≤ n ∧ n ≤ l.length ∧ Sc wr P M s n en tm tv bv ov ∧ Bld w.heap.size acc wr ∧ acc.length ≤ n ∧ But P w wr ∧ w.heap.size + 1 ≤ wr.heap.size ∧ Hid (X = (partS o e d (rest l M.J n)).map fun r => (acc ++ r.1, r.2))) (fun _ _ wr => atLeft s.size P wr)
  case atStart => exact ⟨0, at_, [], rfl, Nat.le_refl _, Nat.zero_le _, Ha.out, H.out.gr G1.out, hBl.out, Nat.zero_le _, But.of_gr G1.out, by rw [hsz1.out]; exact Nat.le_refl _, HX⟩
  case round =>
    obtain ⟨d, n, acc, rfl, han, hdn, hnl, hS, hBld, hacc, hBut, hZ, hE⟩ := hrel
    have S := Lib.hid hS
    have Bl := Lib.hid hBld
    have Bu := Lib.hid hBut
    have Z := Lib.hid hZ
    have Han := Lib.hid han
    have Hdn := Lib.hid hdn
    have HAc := Lib.hid hacc
    clear hS hBld hBut hZ hBl G1 HX hsz1
    obtain ⟨c0, c1, c2, c3, c4, c5, c6, c7, cf⟩ := S.out.cells
    obtain ⟨q0, q1, q2⟩ := (HQ.out.but Bu.out hQP).cells
    by_cases hc : n < l.length
    · have hsn : n < s.size := by rw [Hsz.out]; exact hc
      have hc' : (n : Int) < (s.size : Int) := by omega
      have ex := HB.out n hsn hc
      have Hns := Lib.hid hsn
      have hlS := Hsz.out
      have Hn47 : Hid (n ≤ 140737488351232) := Lib.hid (by omega)
      have HBd : Hid (acc.length + 1 ≤ 140737488355328) := Lib.hid (by omega)
      obtain ⟨n1, hn1⟩ : ∃ n1, n1 = nx M.J n := ⟨_, rfl⟩
      have Hn1 := Lib.hid hn1
      have Hnn : Hid (n < n1) := Lib.hid (by rw [hn1]; exact nx_gt HJ.out n)
      have Hn1l : Hid (n1 ≤ l.length) := Lib.hid (by rw [hn1]; exact nx_le HJ.out hc)
      by_cases hesc : l[n] = 92 ∧ n1 < l.length
      · obtain ⟨h92, hn2⟩ := hesc
        have HE : Hid (X = (partS o e d (rest l M.J (nx M.J n1))).map fun r => ((acc ++ [l[n]] ++ [l[n1]]) ++ r.1, r.2)) := Lib.hid (by
          subst hn1
          rw [hE.out, partS_esc HJ.out hc hn2 h92, Option.map_map]
          congr 1; funext r; simp)
        have hsn1 : n1 < s.size := by omega
        have hc1 : (n1 : Int) < (s.size : Int) := by omega
        have ex1 := HB.out n1 hsn1 hn2
        have t92 : ((l[n].toNat : Int) == 92) = true := by rw [h92]; rfl
        have Hn147 : Hid (n1 ≤ 140737488351232) := Lib.hid (by omega)
        have Hns1 := Lib.hid hsn1
        obtain ⟨n2, hn2e⟩ : ∃ n2, n2 = nx M.J n1 := ⟨_, rfl⟩
        have Hn2 := Lib.hid hn2e
        have Hnn2 : Hid (n1 < n2) := Lib.hid (by rw [hn2e]; exact nx_gt HJ.out n1)
        have Hn2l : Hid (n2 ≤ l.length) := Lib.hid (by rw [hn2e]; exact nx_le HJ.out hn2)
        rw [← hn2e] at HE
        generalize l[n] = x at *
        generalize l[n1] = y at *
        clear hE HB hc hn2 h92 hlS hn1 hnl han hdn hacc hn2e
        go_wp2_with fail
        go_quiet (fail)
        go_wp2_with fail
        go_quiet (fail)
        go_wp2_with fail
        refine (HST.out _ n Hn47.out (S.out.gr ((Gr.refl wr).drewN _))).mono ?_
        rintro e1 w2 ⟨rfl, hS2, hb2⟩
        rw [← Hn1.out] at hS2
        have K2 := Lib.hid ((But.of_gr (P := P) ((Gr.refl wr).drewN _)).trans hb2)
        have Z2 : Hid (w.heap.size + 1 ≤ w2.heap.size) := Lib.hid (Nat.le_trans Z.out K2.out.size)
        have B2 := Lib.hid (Bu.out.trans K2.out)
        have L2 := Lib.hid (Bld.but Bl.out hPB K2.out)
        have S2 := Lib.hid hS2
        clear hS2 hb2 K2 c0 c1 c2 c3 c4 c5 c6 c7 cf q0 q1 q2 Bu Bl Z
        obtain ⟨c0, c1, c2, c3, c4, c5, c6, c7, cf⟩ := S2.out.cells
        obtain ⟨q0, q1, q2⟩ := (HQ.out.but B2.out hQP).cells
        go_wp2_with fail
        go_quiet (fail)
        go_wp2_with fail
        refine (bld_byte x (Bld.but L2.out hPB (But.of_gr ((Gr.refl w2).drewN _))) HBd.out (by have := Z2.out; simp; omega)).mono ?_
        rintro e3 w3 ⟨rfl, hl3, hb3, _⟩
        have S3 := Lib.hid ((S2.out.gr ((Gr.refl w2).drewN _)).below hb3 hPB hMB)
        have B3 := Lib.hid ((B2.out.trans (But.of_gr ((Gr.refl w2).drewN _))).below hb3 (Nat.le_refl _))
        have L3 := Lib.hid hl3
        have Z3 : Hid (w.heap.size + 1 ≤ w3.heap.size) := Lib.hid (Nat.le_trans Z2.out (Nat.le_trans (by simp) hb3.size))
        clear hl3 hb3 L2 S2 B2 Z2 c0 c1 c2 c3 c4 c5 c6 c7 cf q0 q1 q2
        obtain ⟨c0, c1, c2, c3, c4, c5, c6, c7, cf⟩ := S3.out.cells
        obtain ⟨q0, q1, q2⟩ := (HQ.out.but B3.out hQP).cells
        go_wp2_with fail
        go_quiet (fail)
        go_wp2_with fail
        refine (HST.out _ n1 Hn147.out (S3.out.gr ((Gr.refl w3).drewN _))).mono ?_
        rintro e4 w4 ⟨rfl, hS4, hb4⟩
        rw [← Hn2.out] at hS4
        have K4 := Lib.hid ((But.of_gr (P := P) ((Gr.refl w3).drewN _)).trans hb4)
        have Z4 : Hid (w.heap.size + 1 ≤ w4.heap.size) := Lib.hid (Nat.le_trans Z3.out K4.out.size)
        have B4 := Lib.hid (B3.out.trans K4.out)
        have L4 := Lib.hid (Bld.but L3.out hPB K4.out)
        have S4 := Lib.hid hS4
        clear hS4 hb4 K4 c0 c1 c2 c3 c4 c5 c6 c7 cf q0 q1 q2 S3 B3 L3 Z3
        go_wp2_with fail
        refine (bld_byte y L4.out (by have := HBd.out; have := HAc.out; have := Hn47.out; simp only [List.length_append, List.length_cons, List.length_nil]; omega) (by have := Z4.out; omega)).mono ?_
        rintro e5 w5 ⟨rfl, hl5, hb5, _⟩
        have S5 := Lib.hid (S4.out.below hb5 hPB hMB)
        have B5 := Lib.hid (B4.out.below hb5 (Nat.le_refl _))
        have L5 := Lib.hid hl5
        have Z5 : Hid (w.heap.size + 1 ≤ w5.heap.size) := Lib.hid (Nat.le_trans Z4.out hb5.size)
        clear hl5 hb5 L4 S4 B4 Z4
        go_wp2
        go_roundw
        case rel =>
          have := Hnn.out
          have := Hnn2.out
          have := Han.out
          have := HAc.out
          have := Hdn.out
          exact ⟨d, n2, acc ++ [x] ++ [y], rfl, by omega, by omega, Hn2l.out, S5.out, L5.out, by simp only [List.length_append, List.length_cons, List.length_nil]; omega, B5.out, Z5.out, HE⟩
        case measure =>
          have := Hnn.out
          have := Hnn2.out
          have := Hns.out
          rw [S.out.left, S5.out.left]
          omega
      · have t92 : (((l[n].toNat : Int) == 92) = false) ∨ (((l[n].toNat : Int) == 92) = true ∧ decide (n1 < s.size) = false ∧ decide ((n1 : Int) < (s.size : Int)) = false) := by
          by_cases h : l[n] = 92
          · have : ¬ n1 < l.length := fun h2 => hesc ⟨h, h2⟩
            exact .inr ⟨by rw [h]; rfl, by simp; omega, by simp; omega⟩
          · exact .inl (u8_lit h)
        have hcond : l[n] = 92 → ¬ nx M.J n < l.length := fun h h2 => hesc ⟨h, by rw [hn1]; exact h2⟩
        by_cases hce : l[n] = e
        · have te : ((l[n].toNat : Int) == (e.toNat : Int)) = true := by rw [hce]; simp
          have hx92 : l[n] ≠ 92 := by rw [hce]; exact he92
          have t92' : ((l[n].toNat : Int) == 92) = false := u8_lit hx92
          clear t92
          cases d with
          | zero =>
            have HE : Hid (X = some (acc, rest l M.J n1)) := Lib.hid (by
              rw [hE.out, partS_end0 HJ.out hc hx92 hce, hn1]; simp)
            generalize l[n] = x at *
            clear hE HB hc hx92 hce hesc hcond hlS hn1 hnl han hdn hacc
            go_wp2_with fail
            go_quiet (fail)
            go_wp2_with fail
            go_quiet (fail)
            go_wp2_with fail
            refine (HST.out _ n Hn47.out (S.out.gr ((Gr.refl wr).drewN _))).mono ?_
            rintro e1 w2 ⟨rfl, hS2, hb2⟩
            rw [← Hn1.out] at hS2
            have K2 := Lib.hid ((But.of_gr (P := P) ((Gr.refl wr).drewN _)).trans hb2)
            have Z2 : Hid (w.heap.size + 1 ≤ w2.heap.size) := Lib.hid (Nat.le_trans Z.out K2.out.size)
            have B2 := Lib.hid (Bu.out.trans K2.out)
            have L2 := Lib.hid (Bld.but Bl.out hPB K2.out)
            have S2 := Lib.hid hS2
            clear hS2 hb2 K2 c0 c1 c2 c3 c4 c5 c6 c7 cf q0 q1 q2 Bu Bl Z
            obtain ⟨c0, c1, c2, c3, c4, c5, c6, c7, cf⟩ := S2.out.cells
            obtain ⟨q0, q1, q2⟩ := (HQ.out.but B2.out hQP).cells
            go_wp2_with fail
            go_quiet (fail)
            go_wp2_with fail
            refine (bld_text (Bld.but L2.out hPB (But.of_gr ((Gr.refl w2).drewN _))) (by have := Z2.out; simp; omega)).mono ?_
            rintro e3 w3 ⟨rfl, hb3⟩
            go_wp2
            go_ret
            rw [HE.out]
            have := Hnn.out
            have := Han.out
            have := HAc.out
            refine ⟨n1, rfl, (S2.out.gr ((Gr.refl w2).drewN _)).below hb3 hPB hMB, (B2.out.trans (But.of_gr ((Gr.refl w2).drewN _))).below hb3 (Nat.le_refl _), by rw [← Hl.out], by omega, by rw [← Hl.out]; exact Hn1l.out, by show acc.length ≤ n1; omega⟩
          | succ d =>
            have HE : Hid (X = (partS o e d (rest l M.J n1)).map fun r => ((acc ++ [l[n]]) ++ r.1, r.2)) := Lib.hid (by
              rw [hE.out, partS_endS HJ.out hc hx92 hce, Option.map_map, hn1]
              congr 1; funext r; simp)
            have td : ((((d + 1 : Nat) : Int)) == 0) = false := by simp; omega
            have hd1 : ((d + 1 : Nat) : Int) - 1 = (d : Int) := by omega
            have bd : (d : Int) ≤ 9223372036854775807 := by omega
            have bd0 : -9223372036854775808 ≤ (d : Int) := by omega
            obtain ⟨d1, hd1'⟩ : ∃ d1, d1 = d + 1 := ⟨_, rfl⟩
            rw [← hd1'] at td hd1 ⊢
            generalize l[n] = x at *
            have Hdd := Lib.hid hd1'
            clear hE HB hc hx92 hce hesc hcond hlS hn1 hnl han hdn hacc hd1'
            go_wp2_with fail
            go_quiet (fail)
            go_wp2_with fail
            go_quiet (fail)
            go_wp2_with fail
            refine (HST.out _ n Hn47.out (S.out.gr ((Gr.refl wr).drewN _))).mono ?_
            rintro e1 w2 ⟨rfl, hS2, hb2⟩
            rw [← Hn1.out] at hS2
            have K2 := Lib.hid ((But.of_gr (P := P) ((Gr.refl wr).drewN _)).trans hb2)
            have Z2 : Hid (w.heap.size + 1 ≤ w2.heap.size) := Lib.hid (Nat.le_trans Z.out K2.out.size)
            have B2 := Lib.hid (Bu.out.trans K2.out)
            have L2 := Lib.hid (Bld.but Bl.out hPB K2.out)
            have S2 := Lib.hid hS2
            clear hS2 hb2 K2 c0 c1 c2 c3 c4 c5 c6 c7 cf q0 q1 q2 Bu Bl Z
            obtain ⟨c0, c1, c2, c3, c4, c5, c6, c7, cf⟩ := S2.out.cells
            obtain ⟨q0, q1, q2⟩ := (HQ.out.but B2.out hQP).cells
            go_wp2_with fail
            go_quiet (fail)
            go_wp2_with fail
            refine (bld_byte x (Bld.but L2.out hPB (But.of_gr ((Gr.refl w2).drewN _))) HBd.out (by have := Z2.out; simp; omega)).mono ?_
            rintro e3 w3 ⟨rfl, hl3, hb3, _⟩
            have S3 := Lib.hid ((S2.out.gr ((Gr.refl w2).drewN _)).below hb3 hPB hMB)
            have B3 := Lib.hid ((B2.out.trans (But.of_gr ((Gr.refl w2).drewN _))).below hb3 (Nat.le_refl _))
            have L3 := Lib.hid hl3
            have Z3 : Hid (w.heap.size + 1 ≤ w3.heap.size) := Lib.hid (Nat.le_trans Z2.out (Nat.le_trans (by simp) hb3.size))
            clear hl3 hb3 L2 S2 B2 Z2 c0 c1 c2 c3 c4 c5 c6 c7 cf q0 q1 q2
            go_wp2
            go_roundw
            case rel =>
              have := Hnn.out
              have := Han.out
              have := HAc.out
              have := Hdn.out
              have := Hdd.out
              exact ⟨d, n1, acc ++ [x], rfl, by omega, by omega, Hn1l.out, S3.out, L3.out, by rw [List.length_append]; simp only [List.length_cons, List.length_nil]; omega, B3.out, Z3.out, HE⟩
            case measure =>
              have := Hnn.out
              have := Hns.out
              rw [S.out.left, S3.out.left]
              omega
        · have te : ((l[n].toNat : Int) == (e.toNat : Int)) = false := by
            simp only [beq_eq_false_iff_ne, ne_eq]
            intro h
            exact hce (UInt8.toNat_inj.1 (by omega))
          by_cases hco : l[n] = o
          · have to : ((l[n].toNat : Int) == (o.toNat : Int)) = true := by rw [hco]; simp
            have hx92 : l[n] ≠ 92 := by rw [hco]; exact ho92
            have t92' : ((l[n].toNat : Int) == 92) = false := u8_lit hx92
            clear t92
            have HE : Hid (X = (partS o e (d + 1) (rest l M.J n1)).map fun r => ((acc ++ [l[n]]) ++ r.1, r.2)) := Lib.hid (by
              rw [hE.out, partS_open HJ.out hc hx92 hce hco, Option.map_map, hn1]
              congr 1; funext r; simp)
            obtain ⟨d1, hd1'⟩ : ∃ d1, d1 = d + 1 := ⟨_, rfl⟩
            have hw1 : IntKind.i64.wrap ((d : Int) + 1) = (d1 : Int) := by rw [IntKind.wrap_i64]; omega
            have hw2 : wrap64 ((d : Int) + 1) = (d1 : Int) := by simp only [wrap64]; omega
            have Hd := Lib.hid hd1'
            rw [← hd1'] at HE
            generalize l[n] = x at *
            clear hE HB hc hx92 hce hesc hcond hlS hn1 hnl han hdn hacc hd1' hco
            go_wp2_with fail
            go_quiet (fail)
            go_wp2_with fail
            go_quiet (fail)
            go_wp2_with fail
            refine (HST.out _ n Hn47.out (S.out.gr ((Gr.refl wr).drewN _))).mono ?_
            rintro e1 w2 ⟨rfl, hS2, hb2⟩
            rw [← Hn1.out] at hS2
            have K2 := Lib.hid ((But.of_gr (P := P) ((Gr.refl wr).drewN _)).trans hb2)
            have Z2 : Hid (w.heap.size + 1 ≤ w2.heap.size) := Lib.hid (Nat.le_trans Z.out K2.out.size)
            have B2 := Lib.hid (Bu.out.trans K2.out)
            have L2 := Lib.hid (Bld.but Bl.out hPB K2.out)
            have S2 := Lib.hid hS2
            clear hS2 hb2 K2 c0 c1 c2 c3 c4 c5 c6 c7 cf q0 q1 q2 Bu Bl Z
            obtain ⟨c0, c1, c2, c3, c4, c5, c6, c7, cf⟩ := S2.out.cells
            obtain ⟨q0, q1, q2⟩ := (HQ.out.but B2.out hQP).cells
            go_wp2_with fail
            go_quiet (fail)
            go_wp2_with fail
            refine (bld_byte x (Bld.but L2.out hPB (But.of_gr ((Gr.refl w2).drewN _))) HBd.out (by have := Z2.out; simp; omega)).mono ?_
            rintro e3 w3 ⟨rfl, hl3, hb3, _⟩
            have S3 := Lib.hid ((S2.out.gr ((Gr.refl w2).drewN _)).below hb3 hPB hMB)
            have B3 := Lib.hid ((B2.out.trans (But.of_gr ((Gr.refl w2).drewN _))).below hb3 (Nat.le_refl _))
            have L3 := Lib.hid hl3
            have Z3 : Hid (w.heap.size + 1 ≤ w3.heap.size) := Lib.hid (Nat.le_trans Z2.out (Nat.le_trans (by simp) hb3.size))
            clear hl3 hb3 L2 S2 B2 Z2 c0 c1 c2 c3 c4 c5 c6 c7 cf q0 q1 q2
            clear hw1 hw2
            go_wp2
            go_roundw
            case rel =>
              have := Hnn.out
              have := Han.out
              have := HAc.out
              have := Hdn.out
              have := Hd.out
              exact ⟨d1, n1, acc ++ [x], rfl, by omega, by omega, Hn1l.out, S3.out, L3.out, by rw [List.length_append]; simp only [List.length_cons, List.length_nil]; omega, B3.out, Z3.out, HE⟩
            case measure =>
              have := Hnn.out
              have := Hns.out
              rw [S.out.left, S3.out.left]
              omega
          · have to : ((l[n].toNat : Int) == (o.toNat : Int)) = false := by
              simp only [beq_eq_false_iff_ne, ne_eq]
              intro h
              exact hco (UInt8.toNat_inj.1 (by omega))
            have HE : Hid (X = (partS o e d (rest l M.J n1)).map fun r => ((acc ++ [l[n]]) ++ r.1, r.2)) := Lib.hid (by
              rw [hE.out, partS_else HJ.out hc hcond hce hco, Option.map_map, hn1]
              congr 1; funext r; simp)
            generalize l[n] = x at *
            clear hE HB hc hce hesc hcond hlS hn1 hnl han hdn hacc hco
            rcases t92 with t92 | ⟨t92, t93, t94⟩
            all_goals
              go_wp2_with fail
              go_quiet (fail)
              go_wp2_with fail
              go_quiet (fail)
              go_wp2_with fail
              refine (HST.out _ n Hn47.out (S.out.gr ((Gr.refl wr).drewN _))).mono ?_
              rintro e1 w2 ⟨rfl, hS2, hb2⟩
              rw [← Hn1.out] at hS2
              have K2 := Lib.hid ((But.of_gr (P := P) ((Gr.refl wr).drewN _)).trans hb2)
              have Z2 : Hid (w.heap.size + 1 ≤ w2.heap.size) := Lib.hid (Nat.le_trans Z.out K2.out.size)
              have B2 := Lib.hid (Bu.out.trans K2.out)
              have L2 := Lib.hid (Bld.but Bl.out hPB K2.out)
              have S2 := Lib.hid hS2
              clear hS2 hb2 K2 c0 c1 c2 c3 c4 c5 c6 c7 cf q0 q1 q2 Bu Bl Z
              obtain ⟨c0, c1, c2, c3, c4, c5, c6, c7, cf⟩ := S2.out.cells
              obtain ⟨q0, q1, q2⟩ := (HQ.out.but B2.out hQP).cells
              go_wp2_with fail
              go_quiet (fail)
              go_wp2_with fail
              refine (bld_byte x (Bld.but L2.out hPB (But.of_gr ((Gr.refl w2).drewN _))) HBd.out (by have := Z2.out; simp; omega)).mono ?_
              rintro e3 w3 ⟨rfl, hl3, hb3, _⟩
              have S3 := Lib.hid ((S2.out.gr ((Gr.refl w2).drewN _)).below hb3 hPB hMB)
              have B3 := Lib.hid ((B2.out.trans (But.of_gr ((Gr.refl w2).drewN _))).below hb3 (Nat.le_refl _))
              have L3 := Lib.hid hl3
              have Z3 : Hid (w.heap.size + 1 ≤ w3.heap.size) := Lib.hid (Nat.le_trans Z2.out (Nat.le_trans (by simp) hb3.size))
              clear hl3 hb3 L2 S2 B2 Z2 c0 c1 c2 c3 c4 c5 c6 c7 cf q0 q1 q2
              go_wp2
              go_roundw
              case rel =>
                have := Hnn.out
                have := Han.out
                have := HAc.out
                have := Hdn.out
                exact ⟨d, n1, acc ++ [x], rfl, by omega, by omega, Hn1l.out, S3.out, L3.out, by rw [List.length_append]; simp only [List.length_cons, List.length_nil]; omega, B3.out, Z3.out, HE⟩
              case measure =>
                have := Hnn.out
                have := Hns.out
                rw [S.out.left, S3.out.left]
                omega
    · have g1 : decide (n < s.size) = false := by rw [Hsz.out]; simpa using hc
      have g2 : decide ((n : Int) < (s.size : Int)) = false := by rw [Hsz.out]; simp; omega
      have HE : Hid (X = none) := Lib.hid (by rw [hE.out, rest_nil (by omega), partS_nil]; rfl)
      clear hE HB hc hnl han hdn hacc
      go_wp2_with fail
      go_quiet (fail)
      go_wp2_with fail
      refine ⟨rfl, ?_⟩
      rw [HE.out]
      exact ⟨⟨fr, Hfr.out, rfl⟩, Bu.out.trans (But.of_gr ((Gr.refl _).drewN _))⟩
end Go.Proofs.YthmopindibdhnaaGreatDoor.G
