/- Quote: the reference's side. -/
import Derived.Test.YtaoehbnjipegoaaDoorLQuote
namespace Go.Proofs.YtaoehbnjipegoaaDoor
open Go.RowKit Go.Shelf
/-- what stands before a byte when k of the two have been looked at -/
def preE (x : UInt8) (k : Nat) : List UInt8 := if (1 ≤ k ∧ x = 39) ∨ (2 ≤ k ∧ x = 92) then [92] else []
theorem preE_two (x : UInt8) : escC x = preE x 2 ++ [x] := by
  unfold escC preE
  by_cases h1 : x = 39
  · simp [h1]
  · by_cases h2 : x = 92
    · simp [h2]
    · simp [h1, h2]
theorem preE_len (x : UInt8) (k : Nat) : (preE x k).length ≤ 1 := by unfold preE; split <;> simp
set_option maxRecDepth 100000 in
set_option maxHeartbeats 2000000 in
theorem escaped_r (s : ByteArray) (hs : s.size ≤ 1000000) (w : World) :
    Calls Tryd.prog 22 #[.string s, .string ⟨#[39, 92]⟩] w fun e w' => e = .returned (.string ⟨(escL s.data.toList).toArray⟩) ∧ Gr w w' := by
  obtain ⟨l, hl⟩ : ∃ l, l = s.data.toList := ⟨_, rfl⟩
  have hsz : s.size = l.length := by rw [hl, ← sizeL]
  have HB := Lib.hid (fun n (h : n < s.size) (h' : n < l.length) => (show s[n] = l[n] by subst hl; exact byteE s n h h'))
  have HX := Lib.hid (fun n (h' : n < l.length) => (show (s.extract n (n + 1)).data.toList = [l[n]] by
    subst hl; rw [extractE, List.drop_eq_getElem_cons h']; simp))
  have hw0 : ((⟨#[39, 92]⟩ : ByteArray)[0]'(by decide)).toNat = 39 := rfl
  have hw1 : ((⟨#[39, 92]⟩ : ByteArray)[1]'(by decide)).toNat = 92 := rfl
  rw [← hl]
  obtain ⟨R, hR⟩ : ∃ R : ByteArray, R = ⟨(escL l).toArray⟩ := ⟨_, rfl⟩
  rw [← hR]
  have HR : Hid (R.data.toList = escL l) := Lib.hid (by rw [hR])
  have Hsz := Lib.hid hsz
  clear hl hsz hR
  go_enter Tryd.func22, Tryd.ntmps22
  go_wp2_with fail
  go_loopw [5, 6, 7] (fun ov iv _ wr => ∃ (i : Nat) (o : ByteArray), iv = .int .i64 (i : Int) ∧ ov = .string o ∧ i ≤ s.size ∧ Hid (o.data.toList = escL (l.take i)) ∧ Gr w wr) (fun _ iv _ _ => leftTo s.size iv)
  case atStart => exact ⟨0, _, rfl, rfl, Nat.zero_le _, Lib.hid rfl, Gr.refl w⟩
  case round =>
    obtain ⟨i, o, rfl, rfl, hi, hO, hG⟩ := hrel
    have Gg := Lib.hid hG
    clear hG
    by_cases hc : i < s.size
    · have hci : (i : Int) < (s.size : Int) := by omega
      have hL : i < l.length := by rw [← Hsz.out]; exact hc
      have ex := HB.out i hc hL
      have hst := Lib.hid (escL_step hL)
      have hX := Lib.hid (HX.out i hL)
      have hi1 : (i : Int) + 1 ≤ 9223372036854775807 := by omega
      have hi2 : -9223372036854775808 ≤ (i : Int) + 1 := by omega
      have hln : Hid (o.size ≤ 2 * i) := Lib.hid (by have := escL_len (l.take i); rw [← hO.out, List.length_take, sizeL] at this; omega)
      generalize l[i] = x at *
      clear HB HX hL
      go_wp2_with fail
      go_loopw [5, 7] (fun ov kv wr => ∃ (q : ByteArray), ov = .string q ∧ Gr w wr ∧ ((kv = .int .i64 0 ∧ Hid (q.data.toList = o.data.toList ++ preE x 0)) ∨ (kv = .int .i64 1 ∧ Hid (q.data.toList = o.data.toList ++ preE x 1)) ∨ (kv = .int .i64 2 ∧ Hid (q.data.toList = o.data.toList ++ preE x 2)))) (fun _ kv _ => leftTo 2 kv)
      case atStart => exact ⟨o, rfl, Gg.out, .inl ⟨rfl, Lib.hid (by simp [preE])⟩⟩
      case round =>
        obtain ⟨q, rfl, hG, hK⟩ := hrel
        have Gq := Lib.hid hG
        have hqs : q.size ≤ 2000002 := by
          have := hln.out
          have p0 := preE_len x 0
          have p1 := preE_len x 1
          have p2 := preE_len x 2
          rcases hK with ⟨_, hQ⟩ | ⟨_, hQ⟩ | ⟨_, hQ⟩
          all_goals
            have h1 := congrArg List.length hQ.out
            rw [List.length_append, sizeL, sizeL] at h1
            omega
        have hqi : (q.size : Int) ≤ 2000002 := by omega
        clear hG Gg
        rcases hK with ⟨rfl, hQ⟩ | ⟨rfl, hQ⟩ | ⟨rfl, hQ⟩
        · by_cases hx : x = 39
          · have tx : ((x.toNat : Int) == 39) = true := by rw [hx]; rfl
            have HE : Hid (preE x 1 = preE x 0 ++ [92]) := Lib.hid (by rw [hx]; rfl)
            clear hx hi1 hi2
            go_wp2_with fail
            go_quiet (fail)
            go_wp2_with fail
            go_roundw
            case rel => exact ⟨q ++ ⟨#[92]⟩, rfl, Gq.out.drewN _, .inr <| .inl ⟨rfl, Lib.hid (by rw [ByteArray.data_append, Array.toList_append, hQ.out, HE.out, List.append_assoc])⟩⟩
            case measure => simp [leftTo]
          · have tx : ((x.toNat : Int) == 39) = false := by
              simp only [beq_eq_false_iff_ne, ne_eq]
              intro h
              exact hx (UInt8.toNat_inj.1 (by simpa using Int.ofNat.inj h))
            have HE : Hid (preE x 1 = preE x 0) := Lib.hid (by simp [preE, hx])
            clear hx hi1 hi2
            go_wp2_with fail
            go_quiet (fail)
            go_wp2_with fail
            go_roundw
            case rel => exact ⟨q, rfl, Gq.out.drewN _, .inr <| .inl ⟨rfl, Lib.hid (by rw [hQ.out, HE.out])⟩⟩
            case measure => simp [leftTo]
        · by_cases hx : x = 92
          · have tx : ((x.toNat : Int) == 92) = true := by rw [hx]; rfl
            have HE : Hid (preE x 2 = preE x 1 ++ [92]) := Lib.hid (by rw [hx]; rfl)
            clear hx hi1 hi2
            go_wp2_with fail
            go_quiet (fail)
            go_wp2_with fail
            go_roundw
            case rel => exact ⟨q ++ ⟨#[92]⟩, rfl, Gq.out.drewN _, .inr <| .inr ⟨rfl, Lib.hid (by rw [ByteArray.data_append, Array.toList_append, hQ.out, HE.out, List.append_assoc])⟩⟩
            case measure => simp [leftTo]
          · have tx : ((x.toNat : Int) == 92) = false := by
              simp only [beq_eq_false_iff_ne, ne_eq]
              intro h
              exact hx (UInt8.toNat_inj.1 (by simpa using Int.ofNat.inj h))
            have HE : Hid (preE x 2 = preE x 1) := Lib.hid (by simp [preE, hx])
            clear hx hi1 hi2
            go_wp2_with fail
            go_quiet (fail)
            go_wp2_with fail
            go_roundw
            case rel => exact ⟨q, rfl, Gq.out.drewN _, .inr <| .inr ⟨rfl, Lib.hid (by rw [hQ.out, HE.out])⟩⟩
            case measure => simp [leftTo]
        · have hOq : Hid (escL (l.take (i + 1)) = q.data.toList ++ [x]) := Lib.hid (by rw [hst.out, preE_two, hQ.out, hO.out, List.append_assoc])
          have hci2 : (i : Int) + 1 ≤ (s.size : Int) := by omega
          clear hQ hst hln
          go_wp2_with fail
          go_roundw
          case rel => exact ⟨i + 1, _, rfl, rfl, hc, Lib.hid (by rw [ByteArray.data_append, Array.toList_append, hX.out, hOq.out]), Gq.out⟩
          case measure => simp only [leftTo]; omega
    · have hci : decide ((i : Int) < (s.size : Int)) = false := by simp; omega
      have hci' : decide (i < s.size) = false := by simp; omega
      have E : Hid (R = o) := Lib.hid (baE (by rw [HR.out, hO.out, List.take_of_length_le (by have := Hsz.out; omega)]))
      clear HB HX hc
      go_wp2_with fail
      go_ret
      exact ⟨by rw [E.out]; rfl, Gg.out⟩
end Go.Proofs.YtaoehbnjipegoaaDoor
