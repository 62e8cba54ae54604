/- formatBits at the bases 2, 8 and 16. -/
import Derived.Test.YthdchkjipafmfaaDoorSpl
import Derived.Test.YthdchkjipafmfaaDoorTz
import Derived.Laws.Bits64b
namespace Go.Proofs.YthdchkjipafmfaaDoor
open Go.RowKit Go.Shelf
theorem zero65 : Tryd.zeroCells129 = Array.replicate 65 (.int .u8 0) := by kernel_rfl
theorem RowIs.fresh (w : World) (T : TypeId) (n : Nat) : RowIs w (w.alloc (.cells (Array.replicate n (.int .u8 0)) T)) w.heap.size (List.replicate n 0) := by
  refine ⟨(Gr.refl w).alloc _, Nat.le_refl _, fun j hj => ⟨?_, ?_⟩⟩
  · rw [World.cell?_alloc_mark]
    rw [List.length_replicate] at hj
    simp [hj]
  · rw [World.frozen?_alloc_mark]; simp
theorem and_mod (v k m : Nat) (hm : m + 1 = 2 ^ k) (hv : v < 18446744073709551616) (h64 : m < 18446744073709551616) : bits BinOp.and IntKind.u64 (v : Int) (m : Int) = ((v % 2 ^ k : Nat) : Int) := by
  rw [bits_and_u64_nat v m hv h64, show m = 2 ^ k - 1 by omega, Nat.and_two_pow_sub_one_eq_mod]
theorem half_lt {v m b : Nat} (hb : 2 ≤ b) (h : v < 2 ^ (m + 1)) : v / b < 2 ^ m := by
  rw [Nat.pow_succ] at h
  exact Nat.lt_of_le_of_lt (Nat.div_le_div_left hb (by decide)) (Nat.div_lt_of_lt_mul (by omega))
theorem sp_round {base u v m : Nat} {q : List UInt8} (hb : 2 ≤ base) (hv : ¬ v < base) (hm : m < q.length) (h : sp base u = sp base v ++ q.drop (m + 1)) :
    sp base u = sp base (v / base) ++ (q.set m (digC (v % base))).drop m := by
  have hlen : (q.take m).length = m := by rw [List.length_take]; omega
  rw [h, sp_more hv hb, set_split q m _ hm, List.drop_left' hlen, List.append_assoc]; rfl
theorem sp_last {base u v m : Nat} {q : List UInt8} (hv : v < base) (hm : m < q.length) (h : sp base u = sp base v ++ q.drop (m + 1)) :
    sp base u = (q.set m (digC v)).drop m := by
  have hlen : (q.take m).length = m := by rw [List.length_take]; omega
  rw [h, sp_one hv, set_split q m _ hm, List.drop_left' hlen]; rfl
def digs36 : ByteArray := ⟨#[48, 49, 50, 51, 52, 53, 54, 55, 56, 57, 97, 98, 99, 100, 101, 102, 103, 104, 105, 106, 107, 108, 109, 110, 111, 112, 113, 114, 115, 116, 117, 118, 119, 120, 121, 122]⟩
theorem dig36_at (d : Nat) (hd : d < 16) (h : d < digs36.size) : digs36[d]'h = digC d := by
  have h16 : ∀ d : Fin 16, digs36[d.1]'(Nat.lt_of_lt_of_le d.2 (by decide)) = digC d.1 := by decide
  exact h16 ⟨d, hd⟩
theorem RowIs.backFrom {w0 wr : World} {B cap : Nat} {l : List UInt8} (h : RowIs w0 wr B l) (k n : Nat) (hn : n + k = l.length) : (convert 90 9 (.slice (some ⟨B, k, none⟩) n cap)).run Tryd.prog wr = .ok (.string ⟨(l.drop k).toArray⟩) wr := by
  have := run_convert_bytes_back (cap := cap) wr 90 9 5 ⟨B, k, none⟩ (l.drop k) Tryd.underlying90 Tryd.underlying5 Tryd.underlying9 (fun j hj => by
    rw [List.length_drop] at hj
    rw [WideShapes.add_plain, (h.2.2 (k + j) (by omega)).1, List.getElem_drop])
  rwa [List.length_drop, show l.length - k = n by omega] at this
theorem slice65 (W : World) (B m : Nat) (hm : m < 65) : (Instr.sliceAt 129 (.pointer (some ⟨B, 0, none⟩)) (some (.int .i64 (m : Int))) none none).run Tryd.prog W = .ok (.slice (some ⟨B, m, none⟩) (65 - m) (65 - m)) W := by
  have hal : Tryd.prog.arrayLen 129 = 65 := by kernel_rfl
  have hu : Tryd.prog.underlying 129 = some (.array (Tryd.prog.arrayLen 129) (Tryd.prog.elem 129)) := by kernel_rfl
  have he : Tryd.prog.elem 129 = 5 := by kernel_rfl
  rw [run_sliceAt_array_l W 129 ⟨B, 0, none⟩ hu .i64 (m : Int) (by omega) (by rw [hal]; omega), hal, he, Tryd.sizeOf5]
  simp only [Result.andThen_ok, slicedAt, Int.toNat_natCast]
  rw [if_neg (by omega), WideShapes.add_plain, Nat.zero_add, Nat.mul_one]
set_option maxRecDepth 100000 in
set_option maxHeartbeats 4000000 in
theorem fb2 (u : Nat) (hu : u ≤ 9007199254740992) (w : World) (hT : DTab w) : Calls Tryd.prog 132 #[.slice none 0 0, .int .u64 (u : Int), .int .i64 2, .bool false, .bool false] w fun e w' =>
    ∃ r : ByteArray, r.data.toList = sp 2 u ∧ e = .returned (.tuple #[.slice none 0 0, .string r]) ∧ Gr w w' := by
  have HP := Lib.hid (fun w => pow2_any 2 (by decide) w)
  have HZ : Hid (∀ w, DTab w → Calls Tryd.prog 142 #[.int .u64 2] w fun e w' => e = .returned (.int .i64 1) ∧ w = w') := Lib.hid (fun w hT => tz_any 2 1 (by decide) (by decide) w hT)
  have HT := Lib.hid hT
  clear hT
  go_enter Tryd.func132, Tryd.ntmps132
  go_wp2_with fail
  refine (HP.out _).mono ?_
  rintro e w1 ⟨rfl, rfl⟩
  have hrow := Lib.hid (RowIs.fresh w 129 65)
  rw [← zero65] at hrow
  go_wp2_with fail
  refine (HZ.out _ (HT.out.on ((Gr.refl w).alloc _))).mono ?_
  rintro e w2 ⟨rfl, rfl⟩
  go_wp2_with fail
  generalize w.heap.size = B at *
  go_loopw [1, 13] (fun uu i wr => ∃ v m : Nat, uu = .int .u64 v ∧ i = .int .i64 m ∧ m ≤ 65 ∧ v ≤ 9007199254740992 ∧ Hid (1 ≤ m ∧ v < 2 ^ (m - 1)) ∧ ∃ q : List UInt8, q.length = 65 ∧ Hid (RowIs w wr B q) ∧ Hid (sp 2 u = sp 2 v ++ q.drop m)) (fun _ i _ => (intOf i).toNat)
  case atStart => exact ⟨u, 65, rfl, rfl, Nat.le_refl _, hu, Lib.hid ⟨by decide, Nat.lt_of_le_of_lt hu (by decide)⟩, List.replicate 65 0, rfl, hrow, Lib.hid (by simp)⟩
  case round =>
    obtain ⟨v, m, rfl, rfl, hm, hv, Hm, q, hq, Hr, Hs⟩ := hrel
    clear hrow
    obtain ⟨m, rfl⟩ : ∃ m', m = m' + 1 := ⟨m - 1, by have := Hm.out.1; omega⟩
    obtain ⟨hcell, hfr⟩ := Hr.out.2.2 m (by omega)
    by_cases hlt : v < 2
    · have hD : Hid (digs36[v]'(Nat.lt_of_lt_of_le hlt (by decide)) = digC v) := Lib.hid (dig36_at v (by omega) _)
      have HS := Lib.hid (sp_last hlt (by omega) Hs.out)
      have HR := Lib.hid (Hr.out.set m (by omega) (digC v))
      have hb := HR.out.backFrom (cap := 65 - m) m (65 - m) (by rw [List.length_set]; omega)
      rw [← hD.out] at hb HS HR
      clear Hr Hs Hm
      unfold digs36 at hb
      have hsl := fun W => slice65 W B m (by omega)
      go_wp2
      go_ret2
      exact ⟨_, by rw [HS.out]; rfl, rfl, HR.out.1⟩
    · have hd16 : v % 2 < 2 := Nat.mod_lt _ (by decide)
      have hand : bits BinOp.and IntKind.u64 (v : Int) 1 = ((v % 2 : Nat) : Int) := and_mod v 1 1 (by decide) (by omega) (by decide)
      obtain ⟨d, hd⟩ : ∃ d, d = v % 2 := ⟨_, rfl⟩
      rw [← hd] at hand hd16
      have Hd := Lib.hid hd
      clear hd
      go_wp2_with fail
      refine ⟨⟨v / 2, m, by simp, rfl, by omega, by omega, Lib.hid ?_, _, ?_, Lib.hid (Hr.out.set m (by omega) _), Lib.hid ?_⟩, ?_⟩
      · obtain ⟨_, h2⟩ := Hm.out
        rw [Nat.add_sub_cancel] at h2
        cases m with
        | zero => have : v < 1 := h2; omega
        | succ m => exact ⟨by omega, half_lt (by decide) h2⟩
      · rw [List.length_set, hq]
      · rw [sp_round (by decide) hlt (by omega) Hs.out, ← Hd.out]
        congr 3
        exact (dig36_at d (by omega) (Nat.lt_of_lt_of_le hd16 (by decide))).symm
      · simp [intOf]
set_option maxRecDepth 100000 in
set_option maxHeartbeats 4000000 in
theorem fb8 (u : Nat) (hu : u ≤ 9007199254740992) (w : World) (hT : DTab w) : Calls Tryd.prog 132 #[.slice none 0 0, .int .u64 (u : Int), .int .i64 8, .bool false, .bool false] w fun e w' =>
    ∃ r : ByteArray, r.data.toList = sp 8 u ∧ e = .returned (.tuple #[.slice none 0 0, .string r]) ∧ Gr w w' := by
  have HP := Lib.hid (fun w => pow2_any 8 (by decide) w)
  have HZ : Hid (∀ w, DTab w → Calls Tryd.prog 142 #[.int .u64 8] w fun e w' => e = .returned (.int .i64 3) ∧ w = w') := Lib.hid (fun w hT => tz_any 8 3 (by decide) (by decide) w hT)
  have HT := Lib.hid hT
  clear hT
  go_enter Tryd.func132, Tryd.ntmps132
  go_wp2_with fail
  refine (HP.out _).mono ?_
  rintro e w1 ⟨rfl, rfl⟩
  have hrow := Lib.hid (RowIs.fresh w 129 65)
  rw [← zero65] at hrow
  go_wp2_with fail
  refine (HZ.out _ (HT.out.on ((Gr.refl w).alloc _))).mono ?_
  rintro e w2 ⟨rfl, rfl⟩
  go_wp2_with fail
  generalize w.heap.size = B at *
  go_loopw [1, 13] (fun uu i wr => ∃ v m : Nat, uu = .int .u64 v ∧ i = .int .i64 m ∧ m ≤ 65 ∧ v ≤ 9007199254740992 ∧ Hid (1 ≤ m ∧ v < 2 ^ (m - 1)) ∧ ∃ q : List UInt8, q.length = 65 ∧ Hid (RowIs w wr B q) ∧ Hid (sp 8 u = sp 8 v ++ q.drop m)) (fun _ i _ => (intOf i).toNat)
  case atStart => exact ⟨u, 65, rfl, rfl, Nat.le_refl _, hu, Lib.hid ⟨by decide, Nat.lt_of_le_of_lt hu (by decide)⟩, List.replicate 65 0, rfl, hrow, Lib.hid (by simp)⟩
  case round =>
    obtain ⟨v, m, rfl, rfl, hm, hv, Hm, q, hq, Hr, Hs⟩ := hrel
    clear hrow
    obtain ⟨m, rfl⟩ : ∃ m', m = m' + 1 := ⟨m - 1, by have := Hm.out.1; omega⟩
    obtain ⟨hcell, hfr⟩ := Hr.out.2.2 m (by omega)
    by_cases hlt : v < 8
    · have hD : Hid (digs36[v]'(Nat.lt_of_lt_of_le hlt (by decide)) = digC v) := Lib.hid (dig36_at v (by omega) _)
      have HS := Lib.hid (sp_last hlt (by omega) Hs.out)
      have HR := Lib.hid (Hr.out.set m (by omega) (digC v))
      have hb := HR.out.backFrom (cap := 65 - m) m (65 - m) (by rw [List.length_set]; omega)
      rw [← hD.out] at hb HS HR
      clear Hr Hs Hm
      unfold digs36 at hb
      have hsl := fun W => slice65 W B m (by omega)
      go_wp2
      go_ret2
      exact ⟨_, by rw [HS.out]; rfl, rfl, HR.out.1⟩
    · have hd16 : v % 8 < 8 := Nat.mod_lt _ (by decide)
      have hand : bits BinOp.and IntKind.u64 (v : Int) 7 = ((v % 8 : Nat) : Int) := and_mod v 3 7 (by decide) (by omega) (by decide)
      obtain ⟨d, hd⟩ : ∃ d, d = v % 8 := ⟨_, rfl⟩
      rw [← hd] at hand hd16
      have Hd := Lib.hid hd
      clear hd
      go_wp2_with fail
      refine ⟨⟨v / 8, m, by simp, rfl, by omega, by omega, Lib.hid ?_, _, ?_, Lib.hid (Hr.out.set m (by omega) _), Lib.hid ?_⟩, ?_⟩
      · obtain ⟨_, h2⟩ := Hm.out
        rw [Nat.add_sub_cancel] at h2
        cases m with
        | zero => have : v < 1 := h2; omega
        | succ m => exact ⟨by omega, half_lt (by decide) h2⟩
      · rw [List.length_set, hq]
      · rw [sp_round (by decide) hlt (by omega) Hs.out, ← Hd.out]
        congr 3
        exact (dig36_at d (by omega) (Nat.lt_of_lt_of_le hd16 (by decide))).symm
      · simp [intOf]
set_option maxRecDepth 100000 in
set_option maxHeartbeats 4000000 in
theorem fb16 (u : Nat) (hu : u ≤ 9007199254740992) (w : World) (hT : DTab w) : Calls Tryd.prog 132 #[.slice none 0 0, .int .u64 (u : Int), .int .i64 16, .bool false, .bool false] w fun e w' =>
    ∃ r : ByteArray, r.data.toList = sp 16 u ∧ e = .returned (.tuple #[.slice none 0 0, .string r]) ∧ Gr w w' := by
  have HP := Lib.hid (fun w => pow2_any 16 (by decide) w)
  have HZ : Hid (∀ w, DTab w → Calls Tryd.prog 142 #[.int .u64 16] w fun e w' => e = .returned (.int .i64 4) ∧ w = w') := Lib.hid (fun w hT => tz_any 16 4 (by decide) (by decide) w hT)
  have HT := Lib.hid hT
  clear hT
  go_enter Tryd.func132, Tryd.ntmps132
  go_wp2_with fail
  refine (HP.out _).mono ?_
  rintro e w1 ⟨rfl, rfl⟩
  have hrow := Lib.hid (RowIs.fresh w 129 65)
  rw [← zero65] at hrow
  go_wp2_with fail
  refine (HZ.out _ (HT.out.on ((Gr.refl w).alloc _))).mono ?_
  rintro e w2 ⟨rfl, rfl⟩
  go_wp2_with fail
  generalize w.heap.size = B at *
  go_loopw [1, 13] (fun uu i wr => ∃ v m : Nat, uu = .int .u64 v ∧ i = .int .i64 m ∧ m ≤ 65 ∧ v ≤ 9007199254740992 ∧ Hid (1 ≤ m ∧ v < 2 ^ (m - 1)) ∧ ∃ q : List UInt8, q.length = 65 ∧ Hid (RowIs w wr B q) ∧ Hid (sp 16 u = sp 16 v ++ q.drop m)) (fun _ i _ => (intOf i).toNat)
  case atStart => exact ⟨u, 65, rfl, rfl, Nat.le_refl _, hu, Lib.hid ⟨by decide, Nat.lt_of_le_of_lt hu (by decide)⟩, List.replicate 65 0, rfl, hrow, Lib.hid (by simp)⟩
  case round =>
    obtain ⟨v, m, rfl, rfl, hm, hv, Hm, q, hq, Hr, Hs⟩ := hrel
    clear hrow
    obtain ⟨m, rfl⟩ : ∃ m', m = m' + 1 := ⟨m - 1, by have := Hm.out.1; omega⟩
    obtain ⟨hcell, hfr⟩ := Hr.out.2.2 m (by omega)
    by_cases hlt : v < 16
    · have hD : Hid (digs36[v]'(Nat.lt_of_lt_of_le hlt (by decide)) = digC v) := Lib.hid (dig36_at v (by omega) _)
      have HS := Lib.hid (sp_last hlt (by omega) Hs.out)
      have HR := Lib.hid (Hr.out.set m (by omega) (digC v))
      have hb := HR.out.backFrom (cap := 65 - m) m (65 - m) (by rw [List.length_set]; omega)
      rw [← hD.out] at hb HS HR
      clear Hr Hs Hm
      unfold digs36 at hb
      have hsl := fun W => slice65 W B m (by omega)
      go_wp2
      go_ret2
      exact ⟨_, by rw [HS.out]; rfl, rfl, HR.out.1⟩
    · have hd16 : v % 16 < 16 := Nat.mod_lt _ (by decide)
      have hand : bits BinOp.and IntKind.u64 (v : Int) 15 = ((v % 16 : Nat) : Int) := and_mod v 4 15 (by decide) (by omega) (by decide)
      obtain ⟨d, hd⟩ : ∃ d, d = v % 16 := ⟨_, rfl⟩
      rw [← hd] at hand hd16
      have Hd := Lib.hid hd
      clear hd
      go_wp2_with fail
      refine ⟨⟨v / 16, m, by simp, rfl, by omega, by omega, Lib.hid ?_, _, ?_, Lib.hid (Hr.out.set m (by omega) _), Lib.hid ?_⟩, ?_⟩
      · obtain ⟨_, h2⟩ := Hm.out
        rw [Nat.add_sub_cancel] at h2
        cases m with
        | zero => have : v < 1 := h2; omega
        | succ m => exact ⟨by omega, half_lt (by decide) h2⟩
      · rw [List.length_set, hq]
      · rw [sp_round (by decide) hlt (by omega) Hs.out, ← Hd.out]
        congr 3
        exact (dig36_at d (by omega) (Nat.lt_of_lt_of_le hd16 (by decide))).symm
      · simp [intOf]
end Go.Proofs.YthdchkjipafmfaaDoor
