/- The flags behind a quote. -/
import Derived.Test.YtaoehbnjipegoaaDoorLWs
namespace Go.Proofs.YtaoehbnjipegoaaDoor
open Go.RowKit Go.Shelf
/-- how many bytes from a place on are flags, in their order -/
def flagN (l : List UInt8) (a : Nat) : List UInt8 → Nat → Nat
  | [], n => n
  | c :: t, n => flagN l a t (if l[a + n]? = some c then n + 1 else n)
theorem flagN_step {l all : List UInt8} {a i n : Nat} (h : i < all.length) : flagN l a (all.drop i) n = flagN l a (all.drop (i + 1)) (if l[a + n]? = some all[i] then n + 1 else n) := by
  rw [List.drop_eq_getElem_cons h, flagN]
variable {w : World} {P M : Nat} {s : ByteArray} {at_ en : Nat} {tm : Bool} {tv bv ov : Value} {o : UInt8}
set_option maxRecDepth 100000 in
set_option maxHeartbeats 1000000 in
theorem flags_m {Q fr : Nat} (h : Sc w P M s at_ en tm tv bv ov) (hq : Quo w Q P fr o) (hQP : Q ≠ P) (hat : at_ ≤ s.size) (hs : s.size ≤ 140737488351232) (all : ByteArray) (hall : all.size ≤ 100) :
    Calls Tryd.prog 83 #[.pointer (some ⟨Q, 0, none⟩), .string all] w fun e w' => e = .returned (.string (s.extract at_ (at_ + flagN s.data.toList at_ all.data.toList 0))) ∧ Sc w' P M s (at_ + flagN s.data.toList at_ all.data.toList 0) en tm tv bv ov ∧ But P w w' := by
  have H := Lib.hid h
  have HQ := Lib.hid hq
  obtain ⟨l, hl⟩ : ∃ l, l = s.data.toList := ⟨_, rfl⟩
  have hsz : s.size = l.length := by rw [hl, ← sizeL]
  have HB := Lib.hid (fun n (h : n < s.size) (h' : n < l.length) => (show s[n] = l[n] by subst hl; exact byteE s n h h'))
  have HA := Lib.hid (fun n (h : n < all.size) (h' : n < all.data.toList.length) => byteE all n h h')
  rw [← hl]
  have HR : Hid (flagN l at_ all.data.toList 0 = flagN l at_ (all.data.toList.drop 0) 0) := Lib.hid rfl
  generalize flagN l at_ all.data.toList 0 = R at *
  have Hsz := Lib.hid hsz
  have HT := Lib.hid (fun (W : World) (n : Nat) (hn : at_ + n ≤ s.size) (hS : Sc W P M s at_ en tm tv bv ov) => take_p hS n hn hs)
  clear h hq hl hsz
  go_enter Tryd.func83, Tryd.ntmps83
  go_wp2_with fail
  go_loopw [5, 6, 9] (fun nv _ iv wr => ∃ n i : Nat, nv = .int .i64 (n : Int) ∧ iv = .int .i64 (i : Int) ∧ i ≤ all.size ∧ n ≤ i ∧ at_ + n ≤ s.size ∧ Gr w wr ∧ Hid (R = flagN l at_ (all.data.toList.drop i) n)) (fun _ _ iv _ => leftTo all.size iv)
  case atStart => exact ⟨0, 0, rfl, rfl, Nat.zero_le _, Nat.le_refl _, hat, Gr.refl w, HR⟩
  case round =>
    obtain ⟨n, i, rfl, rfl, hi, hni, hn, hg, hR⟩ := hrel
    clear HR
    have Hg := Lib.hid hg
    clear hg
    obtain ⟨c0, c1, c2, c3, c4, c5, c6, c7, cf⟩ := (H.out.gr Hg.out).cells
    obtain ⟨q0, q1, q2⟩ := (HQ.out.but (But.of_gr Hg.out) hQP).cells
    by_cases hc : i < all.size
    · have hci : (i : Int) < (all.size : Int) := by omega
      have hiL : i < all.data.toList.length := by rw [sizeL]; exact hc
      have ea := HA.out i hc hiL
      have hst := flagN_step (l := l) (a := at_) (n := n) hiL
      obtain ⟨m, hm⟩ : ∃ m, m = at_ + n := ⟨_, rfl⟩
      have hm' : (at_ : Int) + (n : Int) = (m : Int) := by omega
      have hwm : IntKind.i64.wrap (m : Int) = (m : Int) := by rw [IntKind.wrap_i64]; omega
      rw [← hm] at hst
      have bn : (n : Int) + 1 ≤ 9223372036854775807 := by omega
      have bn2 : -9223372036854775808 ≤ (n : Int) + 1 := by omega
      have Hm := Lib.hid hm
      by_cases hml : m < l.length
      · rw [List.getElem?_eq_getElem hml] at hst
        have hms : m < s.size := by rw [Hsz.out]; exact hml
        have hmi : (m : Int) < (s.size : Int) := by omega
        have ex := HB.out m hms hml
        by_cases hxy : l[m] = all.data.toList[i]
        · rw [hxy] at hst ex
          rw [if_pos rfl] at hst
          have HE := Lib.hid hst
          generalize all.data.toList[i] = y at *
          clear hst hxy HB HA HT hm
          go_wp2_with fail
          go_quiet (fail)
          go_wp2_with fail
          go_roundw
          case rel =>
            have := Hm.out
            exact ⟨n + 1, i + 1, rfl, rfl, by omega, by omega, by omega, Hg.out.drewN _, Lib.hid (by rw [hR.out, HE.out])⟩
          case measure => simp only [leftTo]; omega
        · rw [if_neg (fun h => hxy (Option.some.inj h))] at hst
          have HE := Lib.hid hst
          have hne : ((l[m].toNat : Int) == (all.data.toList[i].toNat : Int)) = false := by
            simp only [beq_eq_false_iff_ne, ne_eq]
            intro h
            exact hxy (UInt8.toNat_inj.1 (by omega))
          generalize all.data.toList[i] = y at *
          generalize l[m] = x at *
          clear hst hxy HB HA HT hm
          go_wp2_with fail
          go_quiet (fail)
          go_wp2_with fail
          go_roundw
          case rel =>
            exact ⟨n, i + 1, rfl, rfl, by omega, by omega, hn, Hg.out.drewN _, Lib.hid (by rw [hR.out, HE.out])⟩
          case measure => simp only [leftTo]; omega
      · rw [List.getElem?_eq_none (by omega), if_neg (by simp)] at hst
        have HE := Lib.hid hst
        have hmi : decide (m < s.size) = false := by rw [Hsz.out]; simp; omega
        have hmi' : decide ((m : Int) < (s.size : Int)) = false := by rw [Hsz.out]; simp; omega
        clear hst HB HA HT hm ea
        go_wp2_with fail
        go_quiet (fail)
        go_wp2_with fail
        go_roundw
        case rel =>
          exact ⟨n, i + 1, rfl, rfl, by omega, by omega, hn, Hg.out.drewN _, Lib.hid (by rw [hR.out, HE.out])⟩
        case measure => simp only [leftTo]; omega
    · have E : Hid (R = n) := Lib.hid (by rw [hR.out, List.drop_eq_nil_of_le (by rw [sizeL]; omega)]; rfl)
      have hci : decide ((i : Int) < (all.size : Int)) = false := by simp; omega
      have hci' : decide (i < all.size) = false := by simp; omega
      clear hR HB HA hc
      go_wp2_with fail
      refine (HT.out _ n hn (H.out.gr Hg.out)).mono ?_
      rintro e w2 ⟨rfl, hS2, hb2⟩
      go_wp2
      go_ret
      rw [E.out]
      exact ⟨rfl, hS2, (But.of_gr Hg.out).trans hb2⟩
end Go.Proofs.YtaoehbnjipegoaaDoor
