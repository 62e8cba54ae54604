/- The reference's text of a character. -/
import Derived.Test.YtcaoknlgbocgpaaGreatDoorCPts
namespace Go.Proofs.YtcaoknlgbocgpaaGreatDoor
open Go.RowKit Go.Shelf
theorem back_lit (w : World) (l : List UInt8) (k : Nat) (hk : k = l.length) (cs : Array Value) (hcs : cs = (l.map fun b => Value.int .u8 (b.toNat : Int)).toArray) (T : TypeId) (cap : Nat) :
    (convert 39 9 (.slice (some ⟨w.heap.size, 0, none⟩) k cap)).run Tryz.prog (w.alloc (.cells cs T)) = .ok (.string ⟨l.toArray⟩) (w.alloc (.cells cs T)) := by
  subst hk hcs
  refine run_convert_bytes_back _ 39 9 5 ⟨w.heap.size, 0, none⟩ cap l Tryz.underlying39 Tryz.underlying5 Tryz.underlying9 (fun j hj => ?_)
  rw [WideShapes.add_plain, Nat.zero_add, World.cell?_alloc_mark]
  simp [hj]
set_option maxRecDepth 100000 in
set_option maxHeartbeats 4000000 in
theorem one_r (c : Int) (hc : isCh c = true) (w : World) : Calls Tryz.prog 25 #[.int .i64 c] w fun e w' => e = .returned (.string ⟨(oneL c).toArray⟩) ∧ Gr w w' := by
  have hb := isCh_true.1 hc
  clear hc
  by_cases h1 : c < 128
  · have E := Lib.hid (one1 h1)
    have hB := back_lit w [by8 c] 1 rfl #[.int .u8 c] (by simp [by8_to (n := c) (by omega) (by omega)]) 5 1
    go_enter Tryz.func25, Tryz.ntmps25
    go_wp2
    go_ret
    exact ⟨by rw [E.out]; rfl, (Gr.refl w).alloc _⟩
  by_cases h2 : c < 2048
  · have E := Lib.hid (one2 h1 h2)
    have hB := back_lit w [by8 (192 + c / 64), by8 (128 + c % 64)] 2 rfl #[.int .u8 (192 + c / 64), .int .u8 (128 + c % 64)] (by simp [by8_to (n := 192 + c / 64) (by omega) (by omega), by8_to (n := 128 + c % 64) (by omega) (by omega)]) 5 2
    go_enter Tryz.func25, Tryz.ntmps25
    go_wp2
    go_ret
    exact ⟨by rw [E.out]; rfl, (Gr.refl w).alloc _⟩
  by_cases h3 : c < 65536
  · have E := Lib.hid (one3 h1 h2 h3)
    have hB := back_lit w [by8 (224 + c / 4096), by8 (128 + c / 64 % 64), by8 (128 + c % 64)] 3 rfl #[.int .u8 (224 + c / 4096), .int .u8 (128 + c / 64 % 64), .int .u8 (128 + c % 64)]
      (by simp [by8_to (n := 224 + c / 4096) (by omega) (by omega), by8_to (n := 128 + c / 64 % 64) (by omega) (by omega), by8_to (n := 128 + c % 64) (by omega) (by omega)]) 5 3
    go_enter Tryz.func25, Tryz.ntmps25
    go_wp2
    go_ret
    exact ⟨by rw [E.out]; rfl, (Gr.refl w).alloc _⟩
  · have E := Lib.hid (one4 h1 h2 h3)
    have hB := back_lit w [by8 (240 + c / 262144), by8 (128 + c / 4096 % 64), by8 (128 + c / 64 % 64), by8 (128 + c % 64)] 4 rfl #[.int .u8 (240 + c / 262144), .int .u8 (128 + c / 4096 % 64), .int .u8 (128 + c / 64 % 64), .int .u8 (128 + c % 64)]
      (by simp [by8_to (n := 240 + c / 262144) (by omega) (by omega), by8_to (n := 128 + c / 4096 % 64) (by omega) (by omega), by8_to (n := 128 + c / 64 % 64) (by omega) (by omega), by8_to (n := 128 + c % 64) (by omega) (by omega)]) 5 4
    go_enter Tryz.func25, Tryz.ntmps25
    go_wp2
    go_ret
    exact ⟨by rw [E.out]; rfl, (Gr.refl w).alloc _⟩
end Go.Proofs.YtcaoknlgbocgpaaGreatDoor
