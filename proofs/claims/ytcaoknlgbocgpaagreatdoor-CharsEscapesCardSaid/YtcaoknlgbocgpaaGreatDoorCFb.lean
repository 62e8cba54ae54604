/- The library's formatBits at base 16, and the texts that numbers are in it. -/
import Derived.Test.YtcaoknlgbocgpaaGreatDoorCEsc
import Derived.Test.YtcaoknlgbocgpaaGreatDoorCShelfT
import Derived.Laws.IdiomStrings
import Derived.Laws.Bits64b
namespace Go.Proofs.YtcaoknlgbocgpaaGreatDoor
open Go.RowKit Go.Shelf
/-- block B's first cells hold the bytes l; all that stood in w0 stands in wr -/
def RowIs (w0 wr : World) (B : Nat) (l : List UInt8) : Prop := Gr w0 wr ∧ w0.heap.size ≤ B ∧ ∀ j (hj : j < l.length), wr.cell? ⟨B, j, none⟩ = some (.int .u8 (l[j].toNat : Int)) ∧ wr.frozen? ⟨B, j, none⟩ = false
theorem RowIs.set {w0 wr : World} {B : Nat} {l : List UInt8} (h : RowIs w0 wr B l) (k : Nat) (hk : k < l.length) (v : UInt8) : RowIs w0 (wr.setCell ⟨B, k, none⟩ (.int .u8 (v.toNat : Int))) B (l.set k v) := by
  obtain ⟨h1, h2, h3⟩ := h
  refine ⟨h1.setCell h2 _, h2, fun j hj => ⟨?_, ?_⟩⟩
  · rw [List.length_set] at hj
    by_cases e : j = k
    · subst e
      rw [World.cell?_setCell_same _ _ _ (h3 j hk).1, List.getElem_set_self]
    · rw [World.cell?_setCell_other _ _ _ _ (by intro h; injection h with _ h2 _; exact e h2.symm), (h3 j hj).1, List.getElem_set_ne (fun h => e h.symm)]
  · rw [List.length_set] at hj
    rw [World.frozen?_setCell]
    exact (h3 j hj).2
theorem RowIs.new {w0 w : World} (h : Gr w0 w) (s : ByteArray) (cap : Nat) (T : TypeId) :
    RowIs w0 (w.alloc (.cells (bytesRow s cap) T ((bytesRow s cap).size, (bytesRow s cap).size + 1))) w.heap.size s.data.toList := by
  refine ⟨h.alloc _, h.size, fun j hj => ⟨?_, ?_⟩⟩
  · rw [World.cell?_alloc_mark, bytesRow_at s cap j (by simpa using hj)]; simp
  · rw [World.frozen?_alloc_mark]
    have : j < (bytesRow s cap).size := by
      have : j < s.data.size := by simpa using hj
      unfold bytesRow
      rw [Array.size_append, Array.size_map]
      exact Nat.lt_of_lt_of_le this (Nat.le_add_right _ _)
    have hn : ∀ a b : Nat, b < a → (decide (a ≤ b) && decide (b < a + 1)) = false := fun a b h => by simp; omega
    exact hn _ _ this
theorem RowIs.drew {w0 wr : World} {B : Nat} {l : List UInt8} (h : RowIs w0 wr B l) : RowIs w0 wr.drew B l := ⟨h.1.drew, h.2.1, h.2.2⟩
theorem RowIs.drewN {w0 wr : World} {B : Nat} {l : List UInt8} (h : RowIs w0 wr B l) (n : Nat) : RowIs w0 (wr.drewN n) B l := ⟨h.1.drewN n, h.2.1, h.2.2⟩
theorem RowIs.back {w0 wr : World} {B cap : Nat} {l : List UInt8} (h : RowIs w0 wr B l) : (convert 39 9 (.slice (some ⟨B, 0, none⟩) l.length cap)).run Tryz.prog wr = .ok (.string ⟨l.toArray⟩) wr :=
  run_convert_bytes_back wr 39 9 5 ⟨B, 0, none⟩ cap l Tryz.underlying39 Tryz.underlying5 Tryz.underlying9 (fun j hj => by
    rw [WideShapes.add_plain, Nat.zero_add]; exact (h.2.2 j hj).1)
theorem set_split (q : List UInt8) (m : Nat) (d : UInt8) (hq : m < q.length) : q.set m d = q.take m ++ d :: q.drop (m + 1) := by
  rw [List.set_eq_take_append_cons_drop, if_pos hq]
/-- the library's table -/
def DTab (w : World) : Prop := TabAt 8 Lib.deBruijn64tab w
theorem DTab.on {w w' : World} (h : DTab w) (hg : Gr w w') : DTab w' := by
  have hlt : 8 < w.heap.size := by
    have h1 := h 0 (by decide)
    by_cases hl : 8 < w.heap.size
    · exact hl
    · have h0 : w.heap[8]? = none := Array.getElem?_eq_none (by omega)
      simp [World.cell?, h0] at h1
  exact fun j hj => (hg.cell hlt).trans (h j hj)
theorem tz_any (x k : Nat) (hx : x < 18446744073709551616) (hk : Lib.ctz 64 x = k) (w : World) (hT : DTab w) : Calls Tryz.prog 137 #[.int .u64 (x : Int)] w fun e w' => e = .returned (.int .i64 (k : Int)) ∧ w = w' := by
  have g := Any7.bits_TrailingZeros Tryz.lays7t27 x hx w (fun _ => hT)
  change Calls Tryz.prog 137 _ _ _ at g
  rw [hk] at g
  exact g.mono fun e w' ⟨he, hb⟩ => ⟨he, hb.symm⟩
theorem pow2_any (w : World) : Calls Tryz.prog 136 #[.int .i64 16] w fun e w' => e = .returned (.bool true) ∧ w = w' := by
  go_enter Tryz.func136, Tryz.ntmps136
  go_wp2
  go_ret
  exact ⟨by first | rfl | decide | (congr 2; decide), rfl⟩
theorem zero65 : Tryz.zeroCells140 = Array.replicate 65 (.int .u8 0) := by kernel_rfl
theorem RowIs.fresh (w : World) (T : TypeId) (n : Nat) : RowIs w (w.alloc (.cells (Array.replicate n (.int .u8 0)) T)) w.heap.size (List.replicate n 0) := by
  refine ⟨(Gr.refl w).alloc _, Nat.le_refl _, fun j hj => ⟨?_, ?_⟩⟩
  · rw [World.cell?_alloc_mark]
    rw [List.length_replicate] at hj
    simp [hj]
  · rw [World.frozen?_alloc_mark]; simp
theorem and_mod (v k m : Nat) (hm : m + 1 = 2 ^ k) (hv : v < 18446744073709551616) (h64 : m < 18446744073709551616) : bits BinOp.and IntKind.u64 (v : Int) (m : Int) = ((v % 2 ^ k : Nat) : Int) := by
  rw [bits_and_u64_nat v m hv h64, show m = 2 ^ k - 1 by omega, Nat.and_two_pow_sub_one_eq_mod]
theorem half_lt {v m b : Nat} (hb : 2 ≤ b) (h : v < 2 ^ (m + 1)) : v / b < 2 ^ m := by
  rw [Nat.pow_succ] at h
  exact Nat.lt_of_le_of_lt (Nat.div_le_div_left hb (by decide)) (Nat.div_lt_of_lt_mul (by omega))
theorem hexL_round {u v m : Nat} {q : List UInt8} (hv : ¬ v < 16) (hm : m < q.length) (h : hexL u = hexL v ++ q.drop (m + 1)) :
    hexL u = hexL (v / 16) ++ (q.set m (hexD (v % 16))).drop m := by
  have hlen : (q.take m).length = m := by rw [List.length_take]; omega
  rw [h, hexL_more hv, set_split q m _ hm, List.drop_left' hlen, List.append_assoc]; rfl
theorem hexL_last {u v m : Nat} {q : List UInt8} (hv : v < 16) (hm : m < q.length) (h : hexL u = hexL v ++ q.drop (m + 1)) :
    hexL u = (q.set m (hexD v)).drop m := by
  have hlen : (q.take m).length = m := by rw [List.length_take]; omega
  rw [h, hexL_one hv, set_split q m _ hm, List.drop_left' hlen]; rfl
def digs36 : ByteArray := ⟨#[48, 49, 50, 51, 52, 53, 54, 55, 56, 57, 97, 98, 99, 100, 101, 102, 103, 104, 105, 106, 107, 108, 109, 110, 111, 112, 113, 114, 115, 116, 117, 118, 119, 120, 121, 122]⟩
theorem dig36_at (d : Nat) (hd : d < 16) (h : d < digs36.size) : digs36[d]'h = hexD d := by
  have h16 : ∀ d : Fin 16, digs36[d.1]'(Nat.lt_of_lt_of_le d.2 (by decide)) = hexD d.1 := by decide
  exact h16 ⟨d, hd⟩
theorem RowIs.backFrom {w0 wr : World} {B cap : Nat} {l : List UInt8} (h : RowIs w0 wr B l) (k n : Nat) (hn : n + k = l.length) : (convert 39 9 (.slice (some ⟨B, k, none⟩) n cap)).run Tryz.prog wr = .ok (.string ⟨(l.drop k).toArray⟩) wr := by
  have := run_convert_bytes_back (cap := cap) wr 39 9 5 ⟨B, k, none⟩ (l.drop k) Tryz.underlying39 Tryz.underlying5 Tryz.underlying9 (fun j hj => by
    rw [List.length_drop] at hj
    rw [WideShapes.add_plain, (h.2.2 (k + j) (by omega)).1, List.getElem_drop])
  rwa [List.length_drop, show l.length - k = n by omega] at this
theorem slice65 (W : World) (B m : Nat) (hm : m < 65) : (Instr.sliceAt 140 (.pointer (some ⟨B, 0, none⟩)) (some (.int .i64 (m : Int))) none none).run Tryz.prog W = .ok (.slice (some ⟨B, m, none⟩) (65 - m) (65 - m)) W := by
  have hal : Tryz.prog.arrayLen 140 = 65 := by kernel_rfl
  have hu : Tryz.prog.underlying 140 = some (.array (Tryz.prog.arrayLen 140) (Tryz.prog.elem 140)) := by kernel_rfl
  have he : Tryz.prog.elem 140 = 5 := by kernel_rfl
  rw [run_sliceAt_array_l W 140 ⟨B, 0, none⟩ hu .i64 (m : Int) (by omega) (by rw [hal]; omega), hal, he, Tryz.sizeOf5]
  simp only [Result.andThen_ok, slicedAt, Int.toNat_natCast]
  rw [if_neg (by omega), WideShapes.add_plain, Nat.zero_add, Nat.mul_one]
set_option maxRecDepth 100000 in
set_option maxHeartbeats 4000000 in
theorem fb16 (u : Nat) (hu : u ≤ 9007199254740992) (w : World) (hT : DTab w) : Calls Tryz.prog 99 #[.slice none 0 0, .int .u64 (u : Int), .int .i64 16, .bool false, .bool false] w fun e w' =>
    ∃ r : ByteArray, r.data.toList = hexL u ∧ e = .returned (.tuple #[.slice none 0 0, .string r]) ∧ Gr w w' := by
  have HP := Lib.hid (fun w => pow2_any w)
  have HZ : Hid (∀ w, DTab w → Calls Tryz.prog 137 #[.int .u64 16] w fun e w' => e = .returned (.int .i64 4) ∧ w = w') := Lib.hid (fun w hT => tz_any 16 4 (by decide) (by decide) w hT)
  have HT := Lib.hid hT
  clear hT
  go_enter Tryz.func99, Tryz.ntmps99
  go_wp2_with fail
  refine (HP.out _).mono ?_
  rintro e w1 ⟨rfl, rfl⟩
  have hrow := Lib.hid (RowIs.fresh w 140 65)
  rw [← zero65] at hrow
  go_wp2_with fail
  refine (HZ.out _ (HT.out.on ((Gr.refl w).alloc _))).mono ?_
  rintro e w2 ⟨rfl, rfl⟩
  go_wp2_with fail
  generalize w.heap.size = B at *
  go_loopw [1, 13] (fun uu i wr => ∃ v m : Nat, uu = .int .u64 v ∧ i = .int .i64 m ∧ m ≤ 65 ∧ v ≤ 9007199254740992 ∧ Hid (1 ≤ m ∧ v < 2 ^ (m - 1)) ∧ ∃ q : List UInt8, q.length = 65 ∧ Hid (RowIs w wr B q) ∧ Hid (hexL u = hexL v ++ q.drop m)) (fun _ i _ => (intOf i).toNat)
  case atStart => exact ⟨u, 65, rfl, rfl, Nat.le_refl _, hu, Lib.hid ⟨by decide, Nat.lt_of_le_of_lt hu (by decide)⟩, List.replicate 65 0, rfl, hrow, Lib.hid (by simp)⟩
  case round =>
    obtain ⟨v, m, rfl, rfl, hm, hv, Hm, q, hq, Hr, Hs⟩ := hrel
    clear hrow
    obtain ⟨m, rfl⟩ : ∃ m', m = m' + 1 := ⟨m - 1, by have := Hm.out.1; omega⟩
    obtain ⟨hcell, hfr⟩ := Hr.out.2.2 m (by omega)
    by_cases hlt : v < 16
    · have hD : Hid (digs36[v]'(Nat.lt_of_lt_of_le hlt (by decide)) = hexD v) := Lib.hid (dig36_at v (by omega) _)
      have HS := Lib.hid (hexL_last hlt (by omega) Hs.out)
      have HR := Lib.hid (Hr.out.set m (by omega) (hexD v))
      have hb := HR.out.backFrom (cap := 65 - m) m (65 - m) (by rw [List.length_set]; omega)
      rw [← hD.out] at hb HS HR
      clear Hr Hs Hm
      unfold digs36 at hb
      have hsl := fun W => slice65 W B m (by omega)
      go_wp2
      go_ret2
      exact ⟨_, by rw [HS.out]; rfl, rfl, HR.out.1⟩
    · have hd16 : v % 16 < 16 := Nat.mod_lt _ (by decide)
      have hand : bits BinOp.and IntKind.u64 (v : Int) 15 = ((v % 16 : Nat) : Int) := and_mod v 4 15 (by decide) (by omega) (by decide)
      obtain ⟨d, hd⟩ : ∃ d, d = v % 16 := ⟨_, rfl⟩
      rw [← hd] at hand hd16
      have Hd := Lib.hid hd
      clear hd
      go_wp2_with fail
      refine ⟨⟨v / 16, m, by simp, rfl, by omega, by omega, Lib.hid ?_, _, ?_, Lib.hid (Hr.out.set m (by omega) _), Lib.hid ?_⟩, ?_⟩
      · obtain ⟨_, h2⟩ := Hm.out
        rw [Nat.add_sub_cancel] at h2
        cases m with
        | zero => have : v < 1 := h2; omega
        | succ m => exact ⟨by omega, half_lt (by decide) h2⟩
      · rw [List.length_set, hq]
      · rw [hexL_round hlt (by omega) Hs.out, ← Hd.out]
        congr 3
        exact (dig36_at d (by omega) (Nat.lt_of_lt_of_le hd16 (by decide))).symm
      · simp [intOf]
end Go.Proofs.YtcaoknlgbocgpaaGreatDoor
