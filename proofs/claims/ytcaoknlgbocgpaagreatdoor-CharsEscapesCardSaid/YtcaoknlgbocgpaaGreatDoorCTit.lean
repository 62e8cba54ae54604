/- The program's Lower, Upper, Fold, Title. -/
import Derived.Test.YtcaoknlgbocgpaaGreatDoorCFrm
namespace Go.Proofs.YtcaoknlgbocgpaaGreatDoor
open Go.RowKit Go.Shelf
theorem cell_gr {w w' : World} (h : Gr w w') {p : Addr} {v : Value} (hp : w.cell? p = some v) : w'.cell? p = some v := by
  rw [h.cell (World.block_lt_of_cell? w p hp)]; exact hp
abbrev Tabs (w : World) : Prop := Lib.Utf8Tabs 0 1 w
theorem Tabs.gr {w w' : World} (h : Tabs w) (hg : Gr w w') : Tabs w' :=
  ⟨fun c hc => cell_gr hg (h.1 c hc), fun i hi => ⟨cell_gr hg (h.2 i hi).1, cell_gr hg (h.2 i hi).2⟩⟩
/-- the capital form with small ones behind it -/
def titC (c : Int) : List Int := match capC c with
  | [] => []
  | d :: t => d :: t.map smallC
def titF (p : Nat) (c : Int) : List UInt8 := if p = 0 then writeL (titC c) else oneL (smallC c)
theorem titC_len (c : Int) : (titC c).length ≤ 3 := by
  have := capC_len c
  unfold titC
  generalize capC c = l at *
  cases l with
  | nil => simp
  | cons d t => simp at this ⊢; omega
theorem titF_len (p : Nat) (c : Int) : (titF p c).length ≤ 16 := by
  unfold titF
  split
  · exact writeL_len16 _ (by have := titC_len c; omega)
  · have := oneL_len (smallC c); omega
theorem mapF_small (l : List Int) : ∀ p, p ≠ 0 → mapF titF l p = writeL (l.map smallC) := by
  induction l with
  | nil => intro p _; rfl
  | cons c l ih =>
    intro p hp
    rw [mapF, ih _ (by omega), List.map_cons, writeL_cons]
    unfold titF
    rw [if_neg hp]
theorem mapF_title (l : List Int) : mapF titF l 0 = writeL (titleL l) := by
  cases l with
  | nil => rfl
  | cons c l =>
    rw [mapF, mapF_small _ _ (by have := oneL_len c; omega)]
    have hne := cap_ne c
    show (if 0 = 0 then writeL (titC c) else oneL (smallC c)) ++ _ = writeL (match capC c with
      | [] => l.map smallC
      | d :: t => d :: (t.map smallC ++ l.map smallC))
    unfold titC
    rw [if_pos rfl]
    generalize capC c = k at *
    cases k with
    | nil => exact absurd rfl hne
    | cons d t => rw [← writeL_app]; rfl
theorem decodeGo_write {d : Int} {t : List Int} (hd : isCh d = true) (s : ByteArray) (hs : s.data.toList = writeL (d :: t)) : Lib.decodeGo s = (d.toNat, (oneL d).length) := by
  have hf := first_one hd (writeL t)
  rw [← writeL_cons, ← hs] at hf
  have h0 : 0 < s.size := by
    rw [← sizeL, hs, writeL_cons, List.length_append]; have := oneL_len d; omega
  unfold Lib.decodeGo
  rw [if_neg (by omega), decode_ok h0 (by rw [List.drop_zero, hf.1]; exact hf.2), List.drop_zero, hf.1]
set_option maxRecDepth 100000 in
set_option maxHeartbeats 2000000 in
theorem title1_p (p : Nat) (hp : p ≤ 4096) (c : Int) (hc : isCh c = true) (w : World) (hT : Tabs w) : Calls Tryz.prog 46 #[.int .i64 p, .int .i32 c] w fun e w' => e = .returned (.string ⟨(titF p c).toArray⟩) ∧ Gr w w' := by
  have hb := isCh_true.1 hc
  by_cases h0 : p = 0
  · have HC := Lib.hid (fun w => capital_p c hc w)
    have hne := cap_ne c
    have hall := cap_ch hc
    have hlen := capC_len c
    have E : titF p c = writeL (titC c) := if_pos h0
    unfold titC at E
    generalize capC c = k at *
    cases k with
    | nil => exact absurd rfl hne
    | cons d t =>
      rw [List.all_cons, Bool.and_eq_true] at hall
      have hd := decodeGo_write (t := t) hall.1 ⟨(writeL (d :: t)).toArray⟩ (by simp)
      have HD := Lib.hid (fun w (h : Tabs w) => decodeIn_any ⟨(writeL (d :: t)).toArray⟩ w h)
      rw [hd] at HD
      have hdb := isCh_true.1 hall.1
      have hwl : (writeL (d :: t)).length ≤ 16 := writeL_len16 _ (by simp at hlen ⊢; omega)
      have hwe : (writeL (d :: t)).length = (oneL d).length + (writeL t).length := by rw [writeL_cons, List.length_append]
      have hws : (⟨(writeL (d :: t)).toArray⟩ : ByteArray).size = (writeL (d :: t)).length := by show (writeL (d :: t)).toArray.size = _; simp
      have hx : ((⟨(writeL (d :: t)).toArray⟩ : ByteArray).extract (oneL d).length (⟨(writeL (d :: t)).toArray⟩ : ByteArray).size).data.toList = writeL t := by
        rw [dropE, show (⟨(writeL (d :: t)).toArray⟩ : ByteArray).data.toList = writeL (d :: t) by simp, writeL_cons, List.drop_left]
      have HS := Lib.hid (fun w => smalls_p ((⟨(writeL (d :: t)).toArray⟩ : ByteArray).extract (oneL d).length (⟨(writeL (d :: t)).toArray⟩ : ByteArray).size) (by rw [← sizeL, hx]; omega) (by rw [hx]; exact valid_write hall.2) w)
      rw [hx, (runes_write t hall.2).1] at HS
      have hml : (writeL (t.map smallC)).length ≤ 16 := writeL_len16 _ (by simp at hlen ⊢; omega)
      have He := Lib.hid (encode_one hall.1)
      have HE : Hid (titF p c = oneL d ++ writeL (t.map smallC)) := Lib.hid (by rw [E]; exact writeL_cons _ _)
      have hol := oneL_len d
      have hle : (oneL d).length ≤ (⟨(writeL (d :: t)).toArray⟩ : ByteArray).size := by rw [hws, hwe]; omega
      have hdn : ((d.toNat : Nat) : Int) = d := by omega
      rw [hdn] at HD
      have HT := Lib.hid hT
      subst h0
      clear E hd hx hdn hdb hall hne hT hc hb hlen hws hwe
      generalize writeL (d :: t) = W at *
      generalize writeL (t.map smallC) = M at *
      generalize oneL d = D at *
      generalize titF 0 c = R at *
      have hes : (Utf8.encode d).size = D.length := by rw [He.out]; show D.toArray.size = _; simp
      have hMs : (⟨M.toArray⟩ : ByteArray).size = M.length := by show M.toArray.size = _; simp
      have G := Lib.hid (Gr.refl w)
      go_enter Tryz.func46, Tryz.ntmps46
      go_wp2_with (first | (go_at_call 43; refine (HC.out _).mono ?_; rintro e w3 ⟨rfl, g3⟩; have G := Lib.hid (Gr.trans G.out g3)) | (go_at_call 48; refine (HD.out _ (HT.out.gr G.out)).mono ?_; rintro e w3 ⟨rfl, g3⟩; have G := Lib.hid (Gr.trans G.out g3)) | (go_at_call 49; refine (HS.out _).mono ?_; rintro e w3 ⟨rfl, g3⟩; have G := Lib.hid (Gr.trans G.out g3)))
      go_ret
      exact ⟨by
        rw [HE.out]
        show Ending.returned (Value.string (Utf8.encode d ++ ⟨M.toArray⟩)) = _
        rw [He.out]
        congr 2, G.out⟩
  · have HE : Hid (titF p c = oneL (smallC c)) := Lib.hid (if_neg h0)
    have H := Lib.hid (fun w => small_p c (by omega) (by omega) w)
    have He := Lib.hid (encode_one (small_ch hc))
    clear hc hb
    generalize smallC c = d at *
    generalize titF p c = R at *
    go_enter Tryz.func46, Tryz.ntmps46
    go_wp2_with (go_at_call 47; refine (H.out _).mono ?_; rintro e w3 ⟨rfl, rfl⟩)
    go_ret
    exact ⟨by rw [HE.out, ← He.out]; rfl, Gr.refl w⟩
theorem form_flat (h : Int → List UInt8) (s : ByteArray) : mapF (fun _ => h) (runesL s.data.toList) 0 = (runesL s.data.toList).flatMap h := mapF_flat h _ 0
/-- the plain forms of texts -/
def lowerT (l : List UInt8) : List UInt8 × Int := ansT l (writeL ((runesL l).map smallC))
def upperT (l : List UInt8) : List UInt8 × Int := ansT l (writeL ((runesL l).flatMap capC))
def foldT (l : List UInt8) : List UInt8 × Int := ansT l (writeL ((runesL l).flatMap foldC))
def titleT (l : List UInt8) : List UInt8 × Int := ansT l (writeL (titleL (runesL l)))
set_option maxRecDepth 100000 in
theorem upper_p (s : ByteArray) (w : World) : Calls Tryz.prog 19 #[.string s] w (TxtPost (upperT s.data.toList) w) := by
  have H := replaced_p 42 (fun _ c => writeL (capC c)) (fun _ c => writeL_len16 _ (by have := capC_len c; omega)) s w (fun p c w' _ _ hc => upper1_p p c hc w') (enters_of Tryz.func42 (by kernel_rfl) rfl)
  rw [form_flat, flat_write] at H
  have HH := Lib.hid (show Calls Tryz.prog _ _ w (TxtPost (upperT s.data.toList) w) from H)
  clear H
  generalize upperT s.data.toList = A at *
  go_enter Tryz.func19, Tryz.ntmps19
  go_wp2_with (go_at_call 28; refine HH.out.mono ?_; rintro e w3 ⟨rfl, g3⟩)
  go_ret2
  exact ⟨rfl, g3⟩
set_option maxRecDepth 100000 in
theorem foldT_p (s : ByteArray) (w : World) : Calls Tryz.prog 18 #[.string s] w (TxtPost (foldT s.data.toList) w) := by
  have H := replaced_p 40 (fun _ c => writeL (foldC c)) (fun _ c => writeL_len16 _ (by have := foldC_len c; omega)) s w (fun p c w' _ _ hc => fold1_p p c hc w') (enters_of Tryz.func40 (by kernel_rfl) rfl)
  rw [form_flat, flat_write] at H
  have HH := Lib.hid (show Calls Tryz.prog _ _ w (TxtPost (foldT s.data.toList) w) from H)
  clear H
  generalize foldT s.data.toList = A at *
  go_enter Tryz.func18, Tryz.ntmps18
  go_wp2_with (go_at_call 28; refine HH.out.mono ?_; rintro e w3 ⟨rfl, g3⟩)
  go_ret2
  exact ⟨rfl, g3⟩
set_option maxRecDepth 100000 in
theorem title_p (s : ByteArray) (w : World) (hT : Tabs w) : Calls Tryz.prog 21 #[.string s] w (TxtPost (titleT s.data.toList) w) := by
  have H := replaced_p 46 titF titF_len s w (fun p c w' gw hp hc => title1_p p hp c hc w' (hT.gr gw)) (enters_of Tryz.func46 (by kernel_rfl) rfl)
  rw [mapF_title] at H
  have HH := Lib.hid (show Calls Tryz.prog _ _ w (TxtPost (titleT s.data.toList) w) from H)
  clear H hT
  generalize titleT s.data.toList = A at *
  go_enter Tryz.func21, Tryz.ntmps21
  go_wp2_with (go_at_call 28; refine HH.out.mono ?_; rintro e w3 ⟨rfl, g3⟩)
  go_ret2
  exact ⟨rfl, g3⟩
end Go.Proofs.YtcaoknlgbocgpaaGreatDoor
