/- The reference's Hex. -/
import Derived.Test.YtcaoknlgbocgpaaGreatDoorCUns
import Derived.Test.YtcaoknlgbocgpaaGreatDoorCRInts
namespace Go.Proofs.YtcaoknlgbocgpaaGreatDoor
open Go.RowKit Go.Shelf
def hexIs (u v : Nat) (acc : List UInt8) : Prop := (acc = [] ∧ v = u) ∨ (acc ≠ [] ∧ v = 0 ∧ acc = hexL u) ∨ (acc ≠ [] ∧ 0 < v ∧ hexL u = hexL v ++ acc)
theorem hexIs_step {u v : Nat} {acc : List UInt8} (h : hexIs u v acc) (hc : 0 < v ∨ acc = []) : hexIs u (v / 16) (hexD (v % 16) :: acc) := by
  have key : hexL u = hexL v ++ acc := by
    rcases h with ⟨rfl, rfl⟩ | ⟨h1, rfl, h2⟩ | ⟨h1, h2, h3⟩
    · rw [List.append_nil]
    · rcases hc with hc | hc
      · omega
      · exact absurd hc h1
    · exact h3
  by_cases hv : v < 16
  · refine .inr (.inl ⟨by simp, by omega, ?_⟩)
    rw [key, hexL_one hv, Nat.mod_eq_of_lt hv]; rfl
  · refine .inr (.inr ⟨by simp, by omega, ?_⟩)
    rw [key, hexL_more hv, List.append_assoc]; rfl
theorem hexIs_end {u v : Nat} {acc : List UInt8} (h : hexIs u v acc) (hv : v = 0) (ha : acc ≠ []) : acc = hexL u := by
  rcases h with ⟨h1, _⟩ | ⟨_, _, h2⟩ | ⟨_, h2, _⟩
  · exact absurd h1 ha
  · exact h2
  · omega
theorem hexIs_len {u v : Nat} {acc : List UInt8} (h : hexIs u v acc) (hu : u ≤ 1114111) : acc.length ≤ 6 := by
  have := (hexL_len 5 u (by show u < 16777216; omega)).1
  rcases h with ⟨rfl, _⟩ | ⟨_, _, rfl⟩ | ⟨_, _, h2⟩
  · simp
  · exact this
  · rw [h2, List.length_append] at this; omega
def digs16 : ByteArray := ⟨#[48, 49, 50, 51, 52, 53, 54, 55, 56, 57, 97, 98, 99, 100, 101, 102]⟩
theorem dig16_ex : ∀ d, d < 16 → (digs16.extract d (d + 1)).data.toList = [hexD d] := by decide
theorem dig16_step {u : Nat} {z : Int} {a : ByteArray} (hz0 : 0 ≤ z) (h : hexIs u z.toNat a.data.toList) (hc : 0 < z ∨ a.data.toList = []) :
    hexIs u (z / 16).toNat (digs16.extract (z % 16).toNat (z % 16 + 1).toNat ++ a).data.toList ∧ strLen (.string (digs16.extract (z % 16).toNat (z % 16 + 1).toNat ++ a)) ≠ 0 := by
  have e := dig16_ex (z % 16).toNat (by omega)
  rw [show (z % 16).toNat + 1 = (z % 16 + 1).toNat by omega] at e
  have h2 := hexIs_step h (by rcases hc with hc | hc; exact .inl (by omega); exact .inr hc)
  rw [show z.toNat / 16 = (z / 16).toNat by omega, show z.toNat % 16 = (z % 16).toNat by omega] at h2
  constructor
  · rw [app_data, e]; exact h2
  · show (digs16.extract (z % 16).toNat (z % 16 + 1).toNat ++ a).size ≠ 0
    rw [← sizeL, app_data, e]; simp
set_option maxRecDepth 100000 in
set_option maxHeartbeats 2000000 in
theorem hex_r (u : Nat) (hu : u ≤ 1114111) (w : World) : Calls Tryz.prog 24 #[.int .i64 (u : Int)] w fun e w' => (∃ r : ByteArray, r.data.toList = hexL u ∧ e = .returned (.string r)) ∧ w = w' := by
  have H0 : Hid (hexIs u (u : Int).toNat (⟨#[]⟩ : ByteArray).data.toList) := Lib.hid (.inl ⟨rfl, by simp⟩)
  go_enter Tryz.func24, Tryz.ntmps24
  go_wp2_with fail
  go_loop [0, 3] (fun cv sv => ∃ (z : Int) (a : ByteArray), cv = .int .i64 z ∧ sv = .string a ∧ 0 ≤ z ∧ z ≤ 1114111 ∧ Hid (hexIs u z.toNat a.data.toList)) (fun cv sv => (intOf cv).toNat + (if strLen sv = 0 then 1 else 0))
  case atStart => exact ⟨u, ⟨#[]⟩, rfl, rfl, by omega, by omega, H0⟩
  case round =>
    obtain ⟨z, a, rfl, rfl, hz0, hz1, HI⟩ := hrel
    clear H0
    have has : a.size ≤ 6 := by rw [← sizeL]; exact hexIs_len HI.out hu
    by_cases hz : 0 < z
    · have hmod : 0 ≤ z % 16 ∧ z % 16 < 16 := by omega
      have HX := Lib.hid (dig16_step hz0 HI.out (.inl hz))
      go_wp2
      go_round
      case rel => exact ⟨z / 16, _, rfl, rfl, by omega, by omega, Lib.hid HX.out.1⟩
      case measure =>
        have h := HX.out.2
        unfold digs16 at h
        rw [if_neg h]
        simp only [intOf]
        split <;> omega
    · obtain rfl : z = 0 := by omega
      by_cases ha : 0 < a.size
      · have hne := ne_of_pos a ha
        have hne3 : a.toList.isEmpty = false := by simpa using hne
        have hne2 : (a.toList == []) = false := by
          cases hl : a.toList with
          | nil => rw [hl] at hne; cases hne
          | cons x t => rfl
        have HE : Hid (a.data.toList = hexL u) := Lib.hid (hexIs_end HI.out rfl (by
          obtain ⟨t, ht⟩ := cons_of_pos a ha
          rw [ht]; simp))
        clear HI
        go_wp2
        go_ret
        exact ⟨⟨a, HE.out, rfl⟩, rfl⟩
      · have hn := nil_of_zero a ha
        have HX := Lib.hid (dig16_step (by omega) HI.out (.inr hn))
        have he : a.toList = [] := by rw [ByteArray.toList_eq]; exact hn
        have HS : Hid (a.size = 0) := Lib.hid (by omega)
        clear hn HI
        go_wp2
        go_round
        case rel => exact ⟨_, _, rfl, rfl, by decide, by decide, Lib.hid HX.out.1⟩
        case measure =>
          have h := HX.out.2
          unfold digs16 at h
          have h2 : strLen (.string a) = 0 := HS.out
          rw [if_pos h2]
          first | (rw [if_neg h]; simp [intOf]) | (have h' := h; simp at h'; simp [intOf, h'])
set_option maxRecDepth 100000 in
set_option maxHeartbeats 4000000 in
theorem escape_r (s : ByteArray) (hs : s.size ≤ 140000) (w : World) : Calls Tryz.prog 7 #[.string s] w (TxtPost (ansT s.data.toList ((runesL s.data.toList).flatMap escC)) w) := by
  have HCK := Lib.hid (fun w => checked_r s (by omega) w)
  by_cases h : chkE s.data.toList = 0
  · have HR := Lib.hid (fun w => runes_r s hs w)
    have hrl := runesL_len s.data.toList
    rw [sizeL] at hrl
    have hra := runes_ch s.data.toList
    rw [h] at HCK
    have HE := Lib.hid (ansT_ok (r := (runesL s.data.toList).flatMap escC) h)
    clear h
    generalize runesL s.data.toList = cs at *
    have HD : Hid (∀ k (h : k < cs.length), (cs.take (k + 1)).flatMap escC = (cs.take k).flatMap escC ++ escC cs[k] ∧ isCh cs[k] = true) := Lib.hid (fun k h => by
      rw [List.take_add_one, List.getElem?_eq_getElem h, List.flatMap_append]; exact ⟨by simp, List.all_eq_true.1 hra _ (List.getElem_mem h)⟩)
    have HN : Hid ((cs.take cs.length).flatMap escC = cs.flatMap escC) := Lib.hid (by rw [List.take_length])
    clear hra
    go_enter Tryz.func7, Tryz.ntmps7
    go_wp2_with (first | (go_at_call 22; refine (HCK.out _).mono ?_; rintro e w3 ⟨rfl, rfl⟩) | (go_at_call 23; refine (HR.out _).mono ?_; rintro e w0 ⟨lv, rfl, hl0, g0⟩; obtain ⟨ao, cap, rfl, hc0⟩ := hl0.ints; have Hc := Lib.hid hc0; have G0 := Lib.hid g0; clear hc0 hl0 g0))
    go_loopw [5, 7] (fun sv iv wr => ∃ (k : Nat) (a : ByteArray), k ≤ cs.length ∧ sv = .string a ∧ iv = .int .i64 k ∧ a.size ≤ 10 * k ∧ Hid (a.data.toList = (cs.take k).flatMap escC) ∧ Gr w0 wr) (fun _ iv _ => cs.length - (intOf iv).toNat)
    case atStart => exact ⟨0, ⟨#[]⟩, Nat.zero_le _, rfl, rfl, by decide, Lib.hid rfl, Gr.refl w0⟩
    case round =>
      obtain ⟨k, a, hk, rfl, rfl, has, HA, hg⟩ := hrel
      by_cases hlt : k < cs.length
      · obtain ⟨b, o, rfl, hb, hcell0⟩ := Hc.out k hlt
        have hcell : wr.cell? ⟨b, o + k, none⟩ = some (.int .i64 cs[k]) := by rw [hg.cell hb]; exact hcell0
        obtain ⟨hd, hch⟩ := HD.out k hlt
        have hcb := isCh_true.1 hch
        have hel := escC_len hch
        have HA2 := Lib.hid (fun (x : ByteArray) (hx : x.data.toList = escC cs[k]) => (by rw [app_data, HA.out, hx, hd] : (a ++ x).data.toList = (cs.take (k + 1)).flatMap escC))
        have HXs := Lib.hid (fun (x : ByteArray) (hx : x.data.toList = escC cs[k]) => (by rw [← sizeL, app_data, List.length_append, sizeL, hx]; omega : (a ++ x).size ≤ 10 * (k + 1)))
        have Hg := Lib.hid hg
        clear hcell0 hd hg HA
        generalize cs[k] = c at *
        have h92 : (c == 92) = false ∨ c = 92 := by
          by_cases h : c = 92
          · exact .inr h
          · exact .inl (beq_eq_false_iff_ne.2 h)
        rcases h92 with h92 | rfl
        · by_cases c2 : c < 32 ∨ 126 < c
          · have hel2 : escC c = 92 :: 120 :: 123 :: (hexL c.toNat ++ [125]) := by
              unfold escC; rw [if_neg (beq_eq_false_iff_ne.1 h92), if_pos c2]
            have hl6 := (hexL_len 5 c.toNat (by show c.toNat < 16777216; omega)).1
            have HH := Lib.hid (fun w => hex_r c.toNat (by omega) w)
            rw [show ((c.toNat : Nat) : Int) = c by omega] at HH
            have HX : Hid (∀ r : ByteArray, r.data.toList = hexL c.toNat → ((⟨#[92, 120, 123]⟩ : ByteArray) ++ r ++ (⟨#[125]⟩ : ByteArray)).data.toList = escC c ∧ r.size ≤ 6) := Lib.hid (fun r hr => ⟨by rw [app_data, app_data, hr, hel2]; simp, by rw [← sizeL, hr]; exact hl6⟩)
            clear hel2 hl6 hch hcb
            rcases c2 with c2 | c2
            all_goals
              go_wp2_with fail
              refine (HH.out _).mono ?_
              rintro e w3 ⟨⟨r, hr, rfl⟩, rfl⟩
              obtain ⟨hx, hrs⟩ := HX.out r hr
              have HA3 := Lib.hid (HA2.out _ hx)
              have HS3 := Lib.hid (HXs.out _ hx)
              clear hr hx
              go_wp2
              go_roundw
              case rel => exact ⟨k + 1, _, by omega, rfl, by go_num, HS3.out, HA3, Hg.out⟩
              case measure => simp [intOf]; omega
          · have hel2 : escC c = oneL c := by
              unfold escC; rw [if_neg (beq_eq_false_iff_ne.1 h92), if_neg c2]
            have HO := Lib.hid (fun w => one_r c hch w)
            have hol := (oneL_len c).2
            have hx : (⟨(oneL c).toArray⟩ : ByteArray).data.toList = escC c := by rw [hel2]
            have HA3 := Lib.hid (HA2.out _ hx)
            have HS3 := Lib.hid (HXs.out _ hx)
            have hxs : (⟨(oneL c).toArray⟩ : ByteArray).size ≤ 4 := by show (oneL c).toArray.size ≤ 4; simpa using hol
            have g1 : ¬ c < 32 := fun h => c2 (.inl h)
            have g2 : ¬ 126 < c := fun h => c2 (.inr h)
            clear hel2 hx hch hcb c2 hol
            generalize (⟨(oneL c).toArray⟩ : ByteArray) = x at *
            go_wp2_with fail
            refine (HO.out _).mono ?_
            rintro e w3 ⟨rfl, g3⟩
            go_wp2
            go_roundw
            case rel => exact ⟨k + 1, _, by omega, rfl, by go_num, HS3.out, HA3, Gr.trans Hg.out g3⟩
            case measure => simp [intOf]; omega
        · have hx : (⟨#[92, 92]⟩ : ByteArray).data.toList = escC 92 := rfl
          have HA3 := Lib.hid (HA2.out _ hx)
          have HS3 := Lib.hid (HXs.out _ hx)
          clear hx hch hcb
          go_wp2
          go_roundw
          case rel => exact ⟨k + 1, _, by omega, rfl, by go_num, HS3.out, HA3, Hg.out⟩
          case measure => simp [intOf]; omega
      · obtain rfl : k = cs.length := by omega
        have HS := Lib.hid (fun w => sized_r a w)
        have HF : Hid (a.data.toList = cs.flatMap escC) := Lib.hid (by rw [HA.out, HN.out])
        rw [HF.out] at HS
        have Hg := Lib.hid (Gr.trans G0.out hg)
        clear hg HA has
        generalize sizE (cs.flatMap escC) = A at *
        obtain ⟨x1, x2⟩ := A
        go_wp2_with (go_at_call 26; refine (HS.out _).mono ?_; rintro e w3 ⟨rfl, rfl⟩)
        go_ret2
        exact ⟨by rw [HE.out]; rfl, Hg.out⟩
  · have HE := Lib.hid (ansT_no (r := (runesL s.data.toList).flatMap escC) h)
    have hb : (chkE s.data.toList == 0) = false := beq_eq_false_iff_ne.2 h
    clear h
    generalize chkE s.data.toList = E at *
    go_enter Tryz.func7, Tryz.ntmps7
    go_wp2_with (go_at_call 22; refine (HCK.out _).mono ?_; rintro e w3 ⟨rfl, rfl⟩)
    go_ret2
    exact ⟨by rw [HE.out]; rfl, Gr.refl w⟩
end Go.Proofs.YtcaoknlgbocgpaaGreatDoor
