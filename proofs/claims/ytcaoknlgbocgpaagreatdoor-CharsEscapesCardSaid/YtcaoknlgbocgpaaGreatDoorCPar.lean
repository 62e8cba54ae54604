/- ParseUint at base 16 and 32 bits, of at most six digits. -/
import Derived.Test.YtcaoknlgbocgpaaGreatDoorCEsc2
import Derived.Test.YtcaoknlgbocgpaaGreatDoorCFb
namespace Go.Proofs.YtcaoknlgbocgpaaGreatDoor
open Go.RowKit Go.Shelf
theorem all_u8 {P : UInt8 → Prop} (h : ∀ n, n < 256 → P (UInt8.ofNat n)) (c : UInt8) : P c := by
  have := h c.toNat c.toNat_lt
  rwa [UInt8.ofNat_toNat] at this
def lowI (c : UInt8) : Int := ((c ||| 32).toNat : Int)
theorem low_bits (c : UInt8) : bits BinOp.or IntKind.u8 (c.toNat : Int) 32 = lowI c := by
  refine all_u8 (P := fun c => bits BinOp.or IntKind.u8 (c.toNat : Int) 32 = lowI c) ?_ c
  decide +kernel
def lowP (c : UInt8) : Prop :=
  (48 ≤ (c.toNat : Int) ∧ (c.toNat : Int) ≤ 57 ∧ hexV (c.toNat : Int) = (c.toNat : Int) - 48) ∨
  (¬ (48 ≤ (c.toNat : Int) ∧ (c.toNat : Int) ≤ 57) ∧ 97 ≤ lowI c ∧ lowI c ≤ 102 ∧ ¬ (c.toNat : Int) = 95 ∧ hexV (c.toNat : Int) = lowI c - 87) ∨
  (¬ (48 ≤ (c.toNat : Int) ∧ (c.toNat : Int) ≤ 57) ∧ 103 ≤ lowI c ∧ lowI c ≤ 122 ∧ hexV (c.toNat : Int) = -1) ∨
  (¬ (48 ≤ (c.toNat : Int) ∧ (c.toNat : Int) ≤ 57) ∧ lowI c < 97 ∧ hexV (c.toNat : Int) = -1) ∨
  (¬ (48 ≤ (c.toNat : Int) ∧ (c.toNat : Int) ≤ 57) ∧ 122 < lowI c ∧ hexV (c.toNat : Int) = -1)
instance (c : UInt8) : Decidable (lowP c) := by unfold lowP; infer_instance
theorem low_cases (c : UInt8) : lowP c := by
  refine all_u8 ?_ c
  decide +kernel
theorem lower_any (c : UInt8) (w : World) : Calls Tryz.prog 105 #[.int .u8 (c.toNat : Int)] w fun e w' => e = .returned (.int .u8 (lowI c)) ∧ w = w' := by
  have H := Lib.hid (low_bits c)
  have hb := c.toNat_lt
  go_enter Tryz.func105, Tryz.ntmps105
  go_wp2
  go_ret
  exact ⟨by rw [← H.out]; rfl, rfl⟩
theorem valF_snoc (c : Int) (d : List UInt8) (x : UInt8) : valF c (d ++ [x]) = valF c d * 16 + hexV (x.toNat : Int) := by
  unfold valF; rw [List.foldl_append]; rfl
/-- what is known of the digits so far -/
def ParI (l : List UInt8) (k : Nat) (z : Int) : Prop := (l.take k).all hexB = true ∧ z = valF 0 (l.take k)
theorem ParI.bound {l : List UInt8} {k : Nat} {z : Int} (h : ParI l k z) (hk : k ≤ 5) : 0 ≤ z ∧ z ≤ 1048575 := by
  obtain ⟨h1, rfl⟩ := h
  obtain ⟨b1, b2⟩ := valF_bound _ h1 0 (by decide)
  refine ⟨b1, ?_⟩
  have hl : (l.take k).length ≤ 5 := Nat.le_trans (List.length_take_le _ _) hk
  have : (16 : Int) ^ (l.take k).length ≤ 16 ^ 5 := by
    have : (16 : Nat) ^ (l.take k).length ≤ 16 ^ 5 := Nat.pow_le_pow_right (by decide) hl
    exact_mod_cast this
  have e : (16 : Int) ^ 5 = 1048576 := by decide
  rw [e] at this
  omega
theorem ParI.step {s : ByteArray} {k : Nat} {z : Int} (h : ParI s.data.toList k z) (hk : k < s.size) (hx : 0 ≤ hexV (s[k].toNat : Int)) : ParI s.data.toList (k + 1) (z * 16 + hexV (s[k].toNat : Int)) := by
  obtain ⟨h1, rfl⟩ := h
  have e : s.data.toList.take (k + 1) = s.data.toList.take k ++ [s[k]] := by rw [List.take_add_one, getL s k hk]; rfl
  unfold ParI
  rw [e, List.all_append, h1, valF_snoc]
  exact ⟨by simp [hexB]; omega, rfl⟩
theorem ParI.bad {s : ByteArray} {k : Nat} (hk : k < s.size) (hx : hexV (s[k].toNat : Int) = -1) : hexOk s.data.toList = false := by
  unfold hexOk
  rw [Bool.and_eq_false_iff]; right
  rw [List.all_eq_false]
  refine ⟨s[k], List.mem_of_getElem? (getL s k hk), ?_⟩
  simp [hexB, hx]
def puE : Value := .iface 121 (.int .i64 2)
def puA (l : List UInt8) : Value × Value := if hexOk l = true then (.int .u64 (valF 0 l), .nilIface) else (.int .u64 0, puE)
theorem puA_ok {l : List UInt8} (h : hexOk l = true) : puA l = (.int .u64 (valF 0 l), .nilIface) := if_pos h
theorem puA_no {l : List UInt8} (h : hexOk l = false) : puA l = (.int .u64 0, puE) := if_neg (by rw [h]; decide)
set_option maxRecDepth 100000 in
set_option maxHeartbeats 4000000 in
theorem ipu_any (s : ByteArray) (hs : s.size ≤ 6) (w : World) : Calls Tryz.prog 78 #[.string s, .int .i64 16, .int .i64 32] w fun e w' => e = .returned (.tuple #[(puA s.data.toList).1, (puA s.data.toList).2]) ∧ Gr w w' := by
  by_cases h0 : 0 < s.size
  · have hne := ne_of_pos s h0
    have hne2 : (s.toList == []) = false := by
      have := hne
      cases hl : s.toList with
      | nil => rw [hl] at this; cases this
      | cons x t => rfl
    have hconv := run_bytes_of_string (P := Tryz.prog) w 9 39 5 s Tryz.underlying9 Tryz.underlying39 Tryz.underlying5
    have hrow := Lib.hid (RowIs.new (T := 5) (Gr.refl w) s (grownCap w s.size 0 5))
    generalize grownCap w s.size 0 5 = cap at *
    have HA : Hid (ParI s.data.toList 0 0) := Lib.hid ⟨rfl, rfl⟩
    go_enter Tryz.func78, Tryz.ntmps78
    go_wp2_with fail
    have hrow1 := Lib.hid hrow.out.drew
    clear hrow hconv
    generalize w.heap.size = B at *
    go_loopw [12, 13, 101] (fun uv nv iv wr => uv = .bool false ∧ ∃ (k : Nat) (z : Int), k ≤ s.size ∧ iv = .int .i64 k ∧ nv = .int .u64 z ∧ Hid (ParI s.data.toList k z) ∧ RowIs w wr B s.data.toList) (fun _ _ iv _ => s.size - (intOf iv).toNat)
    case atStart => exact ⟨rfl, 0, 0, Nat.zero_le _, rfl, rfl, HA, hrow1.out⟩
    case round =>
      obtain ⟨rfl, k, z, hk, rfl, rfl, HI, hr⟩ := hrel
      clear HA hrow1
      by_cases hlt : k < s.size
      · obtain ⟨hcell0, hfr⟩ := hr.2.2 k (by rw [sizeL]; exact hlt)
        have hcell : wr.cell? ⟨B, k, none⟩ = some (.int .u8 (s[k].toNat : Int)) := hcell0
        clear hcell0
        have Hr := Lib.hid hr
        have hzb := HI.out.bound (by omega)
        have HL := Lib.hid (fun w => lower_any s[k] w)
        have HS := Lib.hid (fun h => HI.out.step hlt h)
        have HB : Hid (hexV (s[k].toNat : Int) = -1 → hexOk s.data.toList = false) := Lib.hid (fun h => ParI.bad hlt h)
        have hx := s[k].toNat_lt
        have hlc := low_cases s[k]
        unfold lowP at hlc
        clear hr HI hfr
        generalize lowI s[k] = L at *
        generalize (s[k].toNat : Int) = c at *
        rcases hlc with ⟨c1, c2, c3⟩ | ⟨c0, c1, c2, c9, c3⟩ | ⟨c0, c1, c2, c3⟩ | ⟨c0, c1, c3⟩ | ⟨c0, c1, c3⟩
        · rw [c3] at HS
          have HZ := Lib.hid (HS.out (by omega))
          have h95 : (c == 95) = false := beq_eq_false_iff_ne.2 (by omega)
          clear HS HB c3
          go_wp2
          go_roundw
          case rel => exact ⟨rfl, k + 1, _, by omega, by go_num, rfl, HZ, Hr.out⟩
          case measure => simp [intOf]; omega
        · rw [c3] at HS
          have HZ := Lib.hid (HS.out (by omega))
          have HZ2 : Hid (ParI s.data.toList (k + 1) (z * 16 + (L - 97 + 10))) := Lib.hid (by have := HZ.out; rwa [show L - 87 = L - 97 + 10 by omega] at this)
          have h95 : (c == 95) = false := beq_eq_false_iff_ne.2 c9
          clear HS HB c3 HZ c9
          go_wp2_with (go_at_call 105; refine (HL.out _).mono ?_; rintro e w3 ⟨rfl, rfl⟩)
          all_goals
            go_roundw
            case rel => exact ⟨rfl, k + 1, _, by omega, by go_num, rfl, HZ2, Hr.out⟩
            case measure => simp [intOf]; omega
        all_goals
          have HN := Lib.hid (puA_no (HB.out c3))
          clear HS HB c3
          cases h95 : (c == 95)
          all_goals
            go_wp2_with (go_at_call 105; refine (HL.out _).mono ?_; rintro e w3 ⟨rfl, rfl⟩)
            all_goals
              go_ret2
              exact ⟨by rw [HN.out]; rfl, Hr.out.1⟩
      · obtain rfl : k = s.size := by omega
        have HO : Hid (hexOk s.data.toList = true ∧ z = valF 0 s.data.toList) := Lib.hid (by
          obtain ⟨h1, h2⟩ := HI.out
          have e : s.data.toList.take s.size = s.data.toList := List.take_of_length_le (by rw [sizeL]; exact Nat.le_refl _)
          rw [e] at h1 h2
          refine ⟨?_, h2⟩
          unfold hexOk
          rw [h1, Bool.and_true]
          obtain ⟨t, ht⟩ := cons_of_pos s h0
          rw [ht]; rfl)
        have Hr := Lib.hid hr
        clear hr HI
        go_wp2
        go_ret2
        exact ⟨by rw [puA_ok HO.out.1, ← HO.out.2]; rfl, Hr.out.1⟩
  · have h1 := nil_of_zero s h0
    have HN : Hid (puA s.data.toList = (.int .u64 0, puE)) := Lib.hid (by rw [h1]; exact puA_no rfl)
    have he : s.toList = [] := by rw [ByteArray.toList_eq]; exact h1
    have he2 : (s.toList == []) = true := by rw [he]; rfl
    clear h1
    go_enter Tryz.func78, Tryz.ntmps78
    go_wp2
    go_ret2
    exact ⟨by rw [HN.out]; rfl, Gr.refl w⟩
end Go.Proofs.YtcaoknlgbocgpaaGreatDoor
