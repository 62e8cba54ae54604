/- BJW9p -/
import Derived.Test.YthmopindibdhnaaDoorM25
namespace Go.Proofs.YthmopindibdhnaaDoor.G
open Go.RowKit Go.Shelf Go.Maps
set_option maxRecDepth 100000 in
set_option maxHeartbeats 8000000 in
theorem wr_p9 (p o : Int) (t r m : ByteArray) (hs : t.size + r.size + m.size ≤ 1000000) (w : World) : Calls Tryd.prog 15 #[.agg #[.int .i64 9, .int .i64 p, .string t, .string r, .string m, .int .i64 o]] w fun e w' => e = .returned (.string (ba (wrB ⟨9, p, t, r, m, o⟩))) ∧ Gr w w' := by
  have HG1 : Hid (Gr w (w.alloc (.cells #[.int .i64 9, .int .i64 p, .string t, .string r, .string m, .int .i64 o] 32))) := Lib.hid ((Gr.refl w).alloc _)
  have HK1 := Lib.hid (heap_alloc_new w (.cells #[.int .i64 9, .int .i64 p, .string t, .string r, .string m, .int .i64 o] 32))
  obtain ⟨kc, kf⟩ := cellsOf HK1.out
  have k0 := kc 0
  have k1 := kc 1
  have k2 := kc 2
  have k3 := kc 3
  have k4 := kc 4
  have k5 := kc 5
  simp at k0 k1 k2 k3 k4 k5
  clear kc
  have ht : t.size ≤ 1000000 := by omega
  have hr : r.size ≤ 1000000 := by omega
  have hm : m.size ≤ 1000000 := by omega
  have HE := Lib.hid (fun (z s : ByteArray) (hs : s.size ≤ 1000000) (hz : z.size ≤ 10) (hd : z.data.toList.Nodup) w => escG_p z s hs w)
  have HEg := Lib.hid (fun (s : ByteArray) (hs : s.size ≤ 1000000) w => show Calls Tryd.prog 26 #[.string s, .string ⟨#[47, 92]⟩] w fun e w' => e = .returned (.string (escB [47, 92] s)) ∧ Gr w w' from HE.out ⟨#[47, 92]⟩ s hs (by decide) (by decide) w)
  have hz : (escB [47, 92] t).size ≤ 2000000 := escB_len _ ht
  have hzf : (escB [47, 92] r).size ≤ 2000000 := escB_len _ hr
  have HV : Hid ((⟨#[116, 114, 47]⟩ ++ escB [47, 92] t ++ ⟨#[47]⟩ ++ escB [47, 92] r ++ ⟨#[47]⟩ ++ m : ByteArray) = ba (wrB ⟨9, p, t, r, m, o⟩)) := Lib.hid (ba_is (by rw [app_data, app_data, app_data, app_data, app_data, escB_data, escB_data]; rfl))
  rw [← HV.out]
  generalize escB [47, 92] = f at *
  have z1 : ¬ 9223372036854775807 < 3 + (f t).size := by omega
  have z2 : ¬ 9223372036854775807 < 3 + (f t).size + 1 := by omega
  have z3 : ¬ 9223372036854775807 < 3 + (f t).size + 1 + (f r).size := by omega
  have z4 : ¬ 9223372036854775807 < 3 + (f t).size + 1 + (f r).size + 1 := by omega
  have z5 : ¬ 9223372036854775807 < 3 + (f t).size + 1 + (f r).size + 1 + m.size := by omega
  clear HV HE hs
  go_enter Tryd.func15, Tryd.ntmps15
  go_wp2_with fail
  have GD := Lib.hid (HG1.out.drew)
  have b2 : (w.alloc (.cells #[.int .i64 9, .int .i64 p, .string t, .string r, .string m, .int .i64 o] 32)).drew.cell? ⟨w.heap.size, 2, none⟩ = some (.string t) := cell_keep ((Gr.refl (w.alloc (.cells #[.int .i64 9, .int .i64 p, .string t, .string r, .string m, .int .i64 o] 32))).drew) (by simp)
  have b3 : (w.alloc (.cells #[.int .i64 9, .int .i64 p, .string t, .string r, .string m, .int .i64 o] 32)).drew.cell? ⟨w.heap.size, 3, none⟩ = some (.string r) := cell_keep ((Gr.refl (w.alloc (.cells #[.int .i64 9, .int .i64 p, .string t, .string r, .string m, .int .i64 o] 32))).drew) (by simp)
  have b4 : (w.alloc (.cells #[.int .i64 9, .int .i64 p, .string t, .string r, .string m, .int .i64 o] 32)).drew.cell? ⟨w.heap.size, 4, none⟩ = some (.string m) := cell_keep ((Gr.refl (w.alloc (.cells #[.int .i64 9, .int .i64 p, .string t, .string r, .string m, .int .i64 o] 32))).drew) (by simp)
  clear k0 k1 k2 k3 k4 k5 kf HG1 HK1
  go_region_with (go_at_call 26; refine (HEg.out _ (by assumption) _).mono ?_; rintro e9 w9 ⟨rfl, g9⟩; replace b3 := cell_keep g9 b3; replace b4 := cell_keep g9 b4; replace GD := Lib.hid (GD.out.trans g9); clear g9)
  all_goals
    go_wp2_with fail
    go_ret
    exact ⟨rfl, GD.out⟩
end Go.Proofs.YthmopindibdhnaaDoor.G
