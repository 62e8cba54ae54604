import Derived.Test.YthmopindibdhnaaGreatDoorQ00
import Derived.Test.YthmopindibdhnaaGreatDoorQ34
import Derived.Test.YthmopindibdhnaaGreatDoorQ35
namespace Go.Proofs.YthmopindibdhnaaGreatDoor.G
open Go.RowKit Go.Shelf Go.Maps
set_option maxRecDepth 100000 in
set_option maxHeartbeats 1000000 in
theorem wr_r (k p o : Int) (t r m : ByteArray) (hs : t.size + r.size + m.size ≤ 1000000) (w : World) : Calls Tryz.prog 21 #[.agg #[.int .i64 k, .int .i64 p, .string t, .string r, .string m, .int .i64 o]] w fun e w' => e = .returned (.string (ba (wrB ⟨k, p, t, r, m, o⟩))) ∧ Gr w w' := by
 have HG1 : Hid (Gr w (w.alloc (.cells #[.int .i64 k, .int .i64 p, .string t, .string r, .string m, .int .i64 o] 42))) := Lh ((Gr.refl w).alloc _)
 have HK1 := Lh (heap_alloc_new w (.cells #[.int .i64 k, .int .i64 p, .string t, .string r, .string m, .int .i64 o] 42))
 obtain ⟨kc, kf⟩ := cellsOf HK1.out
 have k0 := kc 0
 have k1 := kc 1
 have k2 := kc 2
 have k3 := kc 3
 have k4 := kc 4
 have k5 := kc 5
 simp at k0 k1 k2 k3 k4 k5
 clear kc
 have ht : t.size ≤ 1000000 := by omega
 have hr : r.size ≤ 1000000 := by omega
 have hm : m.size ≤ 1000000 := by omega
 have HE := Lh (fun (z s : ByteArray) (hs : s.size ≤ 1000000) (hz : z.size ≤ 10) (hd : z.data.toList.Nodup) w => escG_r z s hs hz hd w)
 by_cases h4 : k = 4
 ·subst h4
  have HE1 := Lh (fun w => HE.out ⟨#[39, 92]⟩ t ht (by decide) (by decide) w)
  rw [show (⟨#[39, 92]⟩ : ByteArray).data.toList = [39, 92] from rfl] at HE1
  obtain ⟨E, hE⟩ : ∃ E, E = ba (escG [39, 92] t.data.toList) := ⟨_, rfl⟩
  have hz : E.size ≤ 2000000 := by rw [hE, ba_len]; have := escG_len [39, 92] t.data.toList; rw [sizeL] at this; omega
  have HV : Hid ((⟨#[39]⟩ ++ E ++ ⟨#[39]⟩ : ByteArray) = ba (wrB ⟨4, p, t, r, m, o⟩)) := Lh (ba_is (by rw [app_data, app_data, hE, ba_data]; rfl))
  rw [← HV.out]
  rw [← hE] at HE1
  clear hE HV HE hs
  go_enter Tryz.func21, Tryz.ntmps21
  go_wp2_with fail
  refine (HE1.out _).mono ?_
  rintro e w1 ⟨rfl, g⟩
  have G1 := Lh (HG1.out.trans g)
  clear g
  go_wp2_with fail
  go_ret
  exact ⟨rfl, G1.out⟩
 by_cases h5 : k = 5
 ·subst h5
  have HV : Hid ((⟨#[34]⟩ ++ t ++ ⟨#[34]⟩ : ByteArray) = ba (wrB ⟨5, p, t, r, m, o⟩)) := Lh (ba_is (by rw [app_data, app_data]; rfl))
  rw [← HV.out]
  clear HV HE hs h4
  go_enter Tryz.func21, Tryz.ntmps21
  go_wp2_with fail
  go_ret
  exact ⟨rfl, HG1.out⟩
 by_cases h6 : k = 6
 ·subst h6
  have HE1 := Lh (fun w => HE.out ⟨#[40, 41, 92]⟩ t ht (by decide) (by decide) w)
  rw [show (⟨#[40, 41, 92]⟩ : ByteArray).data.toList = [40, 41, 92] from rfl] at HE1
  obtain ⟨E, hE⟩ : ∃ E, E = ba (escG [40, 41, 92] t.data.toList) := ⟨_, rfl⟩
  have hz : E.size ≤ 2000000 := by rw [hE, ba_len]; have := escG_len [40, 41, 92] t.data.toList; rw [sizeL] at this; omega
  have HV : Hid ((⟨#[113, 119, 40]⟩ ++ E ++ ⟨#[41]⟩ : ByteArray) = ba (wrB ⟨6, p, t, r, m, o⟩)) := Lh (ba_is (by rw [app_data, app_data, hE, ba_data]; rfl))
  rw [← HV.out]
  rw [← hE] at HE1
  clear hE HV HE hs h4 h5
  go_enter Tryz.func21, Tryz.ntmps21
  go_wp2_with fail
  refine (HE1.out _).mono ?_
  rintro e w1 ⟨rfl, g⟩
  have G1 := Lh (HG1.out.trans g)
  clear g
  go_wp2_with fail
  go_ret
  exact ⟨rfl, G1.out⟩
 by_cases h7 : k = 7
 ·subst h7
  have HE1 := Lh (fun w => HE.out ⟨#[47]⟩ t ht (by decide) (by decide) w)
  rw [show (⟨#[47]⟩ : ByteArray).data.toList = [47] from rfl] at HE1
  obtain ⟨E, hE⟩ : ∃ E, E = ba (escG [47] t.data.toList) := ⟨_, rfl⟩
  have hz : E.size ≤ 2000000 := by rw [hE, ba_len]; have := escG_len [47] t.data.toList; rw [sizeL] at this; omega
  have HV : Hid ((⟨#[109, 47]⟩ ++ E ++ ⟨#[47]⟩ ++ m : ByteArray) = ba (wrB ⟨7, p, t, r, m, o⟩)) := Lh (ba_is (by rw [app_data, app_data, app_data, hE, ba_data]; rfl))
  rw [← HV.out]
  rw [← hE] at HE1
  clear hE HV HE hs h4 h5 h6
  go_enter Tryz.func21, Tryz.ntmps21
  go_wp2_with fail
  have HE2 := Lh (HE1.out (w.alloc (.cells #[.int .i64 7, .int .i64 p, .string t, .string r, .string m, .int .i64 o] 42)).drew)
  have GD := Lh (HG1.out.drew)
  go_region_with (go_at_call 38; refine (HE2.out).mono ?_; rintro e9 w9 ⟨rfl, g9⟩; have G9 := Lh (GD.out.trans g9); have K9 := Lh (((((Gr.refl _).drew).trans g9).block _ (Ag HK1.out).1).trans HK1.out); clear g9; obtain ⟨kc9, _⟩ := cellsOf K9.out; have d4 := kc9 4; simp at d4; clear kc9)
  all_goals
   go_wp2_with fail
   go_ret
   exact ⟨rfl, G9.out⟩
 by_cases h8 : k = 8
 ·subst h8; exact wr_r8 p o t r m hs w
 by_cases h9 : k = 9
 ·subst h9; exact wr_r9 p o t r m hs w
 have t4 : (k == 4) = false := by simpa using h4
 have t5 : (k == 5) = false := by simpa using h5
 have t6 : (k == 6) = false := by simpa using h6
 have t7 : (k == 7) = false := by simpa using h7
 have t8 : (k == 8) = false := by simpa using h8
 have t9 : (k == 9) = false := by simpa using h9
 have HV : Hid (t = ba (wrB ⟨k, p, t, r, m, o⟩)) := Lh (ba_is (by unfold wrB; simp only; rw [if_neg h4, if_neg h5, if_neg h6, if_neg h7, if_neg h8, if_neg h9]))
 rw [← HV.out]
 clear HV HE hs h4 h5 h6 h7 h8 h9
 go_enter Tryz.func21, Tryz.ntmps21
 go_wp2_with fail
 go_ret
 exact ⟨rfl, HG1.out⟩
end Go.Proofs.YthmopindibdhnaaGreatDoor.G
