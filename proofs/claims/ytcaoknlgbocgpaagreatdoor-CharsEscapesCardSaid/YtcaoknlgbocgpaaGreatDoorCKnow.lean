/- The forms that the document gives of some texts. -/
import Derived.Test.YtcaoknlgbocgpaaGreatDoorCSub3
import Derived.Test.YtcaoknlgbocgpaaGreatDoorCTit
namespace Go.Proofs.YtcaoknlgbocgpaaGreatDoor
open Go.RowKit Go.Shelf
theorem chk_write {cs : List Int} (h : cs.all isCh = true) (hl : (writeL cs).length ≤ 4096) : chkE (writeL cs) = 0 := chkE_ok (by omega) (valid_write h)
theorem kn_fold : foldT [83, 116, 114, 97, 195, 159, 101] = ([115, 116, 114, 97, 115, 115, 101], 0) := by
  rw [show ([83, 116, 114, 97, 195, 159, 101] : List UInt8) = writeL [83, 116, 114, 97, 223, 101] by decide]
  unfold foldT
  rw [ansT_ok (chk_write (by decide) (by decide)), (runes_write _ (by decide)).1]
  decide
theorem kn_upper : upperT [83, 116, 114, 97, 195, 159, 101] = ([83, 84, 82, 65, 83, 83, 69], 0) := by
  rw [show ([83, 116, 114, 97, 195, 159, 101] : List UInt8) = writeL [83, 116, 114, 97, 223, 101] by decide]
  unfold upperT
  rw [ansT_ok (chk_write (by decide) (by decide)), (runes_write _ (by decide)).1]
  decide
theorem kn_title : titleT [239, 172, 129, 88] = ([70, 105, 120], 0) := by
  rw [show ([239, 172, 129, 88] : List UInt8) = writeL [64257, 88] by decide]
  unfold titleT
  rw [ansT_ok (chk_write (by decide) (by decide)), (runes_write _ (by decide)).1]
  decide
theorem kn_sub : subT [97, 98, 99, 100, 101] (-3) 2 = ([99, 100], 0) := by
  rw [show ([97, 98, 99, 100, 101] : List UInt8) = writeL [97, 98, 99, 100, 101] by decide]
  rw [subT_ok 2 4 (chk_write (by decide) (by decide)) (by rw [(runes_write _ (by decide)).1]; decide) (by rw [(runes_write _ (by decide)).1]; decide) (by rw [(runes_write _ (by decide)).1]; decide), (runes_write _ (by decide)).1]
  decide
set_option maxRecDepth 100000 in
theorem known_any (w : World) (hT : Tabs w) : Calls Tryz.prog 6 #[] w fun e w' => e = .returned (.bool true) ∧ Gr w w' := by
  have HF := Lib.hid (fun w => foldT_p ⟨#[83, 116, 114, 97, 195, 159, 101]⟩ w)
  rw [show (⟨#[83, 116, 114, 97, 195, 159, 101]⟩ : ByteArray).data.toList = [83, 116, 114, 97, 195, 159, 101] from rfl, kn_fold] at HF
  have HU := Lib.hid (fun w => upper_p ⟨#[83, 116, 114, 97, 195, 159, 101]⟩ w)
  rw [show (⟨#[83, 116, 114, 97, 195, 159, 101]⟩ : ByteArray).data.toList = [83, 116, 114, 97, 195, 159, 101] from rfl, kn_upper] at HU
  have HS := Lib.hid (fun w => sub_p ⟨#[97, 98, 99, 100, 101]⟩ (-3) 2 (by decide) (by decide) w)
  rw [show (⟨#[97, 98, 99, 100, 101]⟩ : ByteArray).data.toList = [97, 98, 99, 100, 101] from rfl, kn_sub] at HS
  have HI := Lib.hid (fun w (h : Tabs w) => title_p ⟨#[239, 172, 129, 88]⟩ w h)
  rw [show (⟨#[239, 172, 129, 88]⟩ : ByteArray).data.toList = [239, 172, 129, 88] from rfl, kn_title] at HI
  have HT := Lib.hid hT
  clear hT
  go_enter Tryz.func6, Tryz.ntmps6
  go_wp2_with fail
  refine (HF.out _).mono ?_
  rintro e w1 ⟨rfl, g1⟩
  go_wp2_with fail
  refine (HU.out _).mono ?_
  rintro e w2 ⟨rfl, g2⟩
  go_wp2_with fail
  refine (HS.out _).mono ?_
  rintro e w3 ⟨rfl, g3⟩
  have G := Lib.hid (Gr.trans g1 (Gr.trans g2 g3))
  go_wp2_with fail
  refine (HI.out _ (HT.out.gr G.out)).mono ?_
  rintro e w4 ⟨rfl, g4⟩
  go_wp2
  go_ret
  exact ⟨rfl, Gr.trans G.out g4⟩
end Go.Proofs.YtcaoknlgbocgpaaGreatDoor
