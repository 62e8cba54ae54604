/- strconv.ParseUint at base 16 and 32 bits, of at most six digits. -/
import Derived.Test.YtcaoknlgbocgpaaGreatDoorCPar
import Derived.Test.YtcaoknlgbocgpaaGreatDoorCShelf8
namespace Go.Proofs.YtcaoknlgbocgpaaGreatDoor
open Go.RowKit Go.Shelf
/-- the library's variable of an error holds an error -/
def ErrV (w : World) : Prop := ∃ tp p, w.cell? ⟨4, 0, none⟩ = some (.iface tp p)
theorem ErrV.on {w w' : World} (h : ErrV w) (hg : Gr w w') : ErrV w' := by
  obtain ⟨tp, p, h⟩ := h
  have hlt : 4 < w.heap.size := by
    by_cases hl : 4 < w.heap.size
    · exact hl
    · have h0 : w.heap[4]? = none := Array.getElem?_eq_none (by omega)
      simp [World.cell?, h0] at h
  exact ⟨tp, p, (hg.cell hlt).trans h⟩
theorem te_any (s : ByteArray) (hs : s.size ≤ 6) (w : World) (hE : ErrV w) : Calls Tryz.prog 79 #[.string ⟨#[80, 97, 114, 115, 101, 85, 105, 110, 116]⟩, .string s, .int .i64 16, .int .i64 32, puE] w fun e w' => (∃ N, e = .returned (.iface 123 (.pointer (some ⟨N, 0, none⟩)))) ∧ Gr w w' := by
  obtain ⟨tp, p, h⟩ := hE
  have g := Any.strconv_toError_syntax Tryz.laysC245 ⟨#[80, 97, 114, 115, 101, 85, 105, 110, 116]⟩ s 16 32 (.iface tp p) w (by omega) h (.inr ⟨tp, p, rfl⟩)
  change Calls Tryz.prog 79 _ _ _ at g
  exact g.mono fun e w' ⟨N, he, _, _, hb⟩ => ⟨⟨N, he⟩, hb⟩
set_option maxRecDepth 100000 in
theorem spu_ok (s : ByteArray) (hs : s.size ≤ 6) (hk : hexOk s.data.toList = true) (w : World) : Calls Tryz.prog 60 #[.string s, .int .i64 16, .int .i64 32] w fun e w' => e = .returned (.tuple #[.int .u64 (valF 0 s.data.toList), .nilIface]) ∧ Gr w w' := by
  have H := Lib.hid (fun w => ipu_any s hs w)
  rw [puA_ok hk] at H
  clear hk
  generalize valF 0 s.data.toList = z at *
  go_enter Tryz.func60, Tryz.ntmps60
  go_wp2_with (go_at_call 78; refine (H.out _).mono ?_; rintro e w1 ⟨rfl, g1⟩)
  go_ret2
  exact ⟨rfl, g1⟩
set_option maxRecDepth 100000 in
theorem spu_no (s : ByteArray) (hs : s.size ≤ 6) (hk : hexOk s.data.toList = false) (w : World) (hE : ErrV w) : Calls Tryz.prog 60 #[.string s, .int .i64 16, .int .i64 32] w fun e w' => (∃ N, e = .returned (.tuple #[.int .u64 0, .iface 123 (.pointer (some ⟨N, 0, none⟩))])) ∧ Gr w w' := by
  have H := Lib.hid (fun w => ipu_any s hs w)
  rw [puA_no hk] at H
  have HT := Lib.hid (fun w h => te_any s hs w h)
  have HE := Lib.hid hE
  clear hk hE
  unfold puE at H HT
  go_enter Tryz.func60, Tryz.ntmps60
  go_wp2_with (first | (go_at_call 78; refine (H.out _).mono ?_; rintro e w1 ⟨rfl, g1⟩) | (go_at_call 79; refine (HT.out _ (HE.out.on g1)).mono ?_; rintro e w2 ⟨⟨N, rfl⟩, g2⟩))
  go_ret2
  exact ⟨⟨N, rfl⟩, Gr.trans g1 g2⟩
end Go.Proofs.YtcaoknlgbocgpaaGreatDoor
