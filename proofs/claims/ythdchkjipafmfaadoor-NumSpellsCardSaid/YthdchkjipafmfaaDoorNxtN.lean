/- Package num's further, for every text. -/
import Derived.Test.YthdchkjipafmfaaDoorUpf
import Derived.Laws.IdiomStrings
namespace Go.Proofs.YthdchkjipafmfaaDoor
open Go.RowKit Go.Shelf
/-- block B's first cells hold the bytes l; all that stood in w0 stands in wr -/
def RowIs (w0 wr : World) (B : Nat) (l : List UInt8) : Prop := Gr w0 wr ∧ w0.heap.size ≤ B ∧ ∀ j (hj : j < l.length), wr.cell? ⟨B, j, none⟩ = some (.int .u8 (l[j].toNat : Int)) ∧ wr.frozen? ⟨B, j, none⟩ = false
theorem RowIs.set {w0 wr : World} {B : Nat} {l : List UInt8} (h : RowIs w0 wr B l) (k : Nat) (hk : k < l.length) (v : UInt8) : RowIs w0 (wr.setCell ⟨B, k, none⟩ (.int .u8 (v.toNat : Int))) B (l.set k v) := by
  obtain ⟨h1, h2, h3⟩ := h
  refine ⟨h1.setCell h2 _, h2, fun j hj => ⟨?_, ?_⟩⟩
  · rw [List.length_set] at hj
    by_cases e : j = k
    · subst e
      rw [World.cell?_setCell_same _ _ _ (h3 j hk).1, List.getElem_set_self]
    · rw [World.cell?_setCell_other _ _ _ _ (by intro h; injection h with _ h2 _; exact e h2.symm), (h3 j hj).1, List.getElem_set_ne (fun h => e h.symm)]
  · rw [List.length_set] at hj
    rw [World.frozen?_setCell]
    exact (h3 j hj).2
theorem RowIs.new {w0 w : World} (h : Gr w0 w) (s : ByteArray) (cap : Nat) (T : TypeId) :
    RowIs w0 (w.alloc (.cells (bytesRow s cap) T ((bytesRow s cap).size, (bytesRow s cap).size + 1))) w.heap.size s.data.toList := by
  refine ⟨h.alloc _, h.size, fun j hj => ⟨?_, ?_⟩⟩
  · rw [World.cell?_alloc_mark, bytesRow_at s cap j (by simpa using hj)]; simp
  · rw [World.frozen?_alloc_mark]
    have : j < (bytesRow s cap).size := by
      have : j < s.data.size := by simpa using hj
      unfold bytesRow
      rw [Array.size_append, Array.size_map]
      exact Nat.lt_of_lt_of_le this (Nat.le_add_right _ _)
    have hn : ∀ a b : Nat, b < a → (decide (a ≤ b) && decide (b < a + 1)) = false := fun a b h => by simp; omega
    exact hn _ _ this
theorem RowIs.drew {w0 wr : World} {B : Nat} {l : List UInt8} (h : RowIs w0 wr B l) : RowIs w0 wr.drew B l := ⟨h.1.drew, h.2.1, h.2.2⟩
theorem RowIs.drewN {w0 wr : World} {B : Nat} {l : List UInt8} (h : RowIs w0 wr B l) (n : Nat) : RowIs w0 (wr.drewN n) B l := ⟨h.1.drewN n, h.2.1, h.2.2⟩
theorem RowIs.back {w0 wr : World} {B cap : Nat} {l : List UInt8} (h : RowIs w0 wr B l) : (convert 90 9 (.slice (some ⟨B, 0, none⟩) l.length cap)).run Tryd.prog wr = .ok (.string ⟨l.toArray⟩) wr :=
  run_convert_bytes_back wr 90 9 5 ⟨B, 0, none⟩ cap l Tryd.underlying90 Tryd.underlying5 Tryd.underlying9 (fun j hj => by
    rw [WideShapes.add_plain, Nat.zero_add]; exact (h.2.2 j hj).1)
theorem set_split (q : List UInt8) (m : Nat) (d : UInt8) (hq : m < q.length) : q.set m d = q.take m ++ d :: q.drop (m + 1) := by
  rw [List.set_eq_take_append_cons_drop, if_pos hq]
theorem step_wrap {q l N : List UInt8} {m : Nat} {c d f : UInt8} (hq : m < q.length) (Ht : q.take (m + 1) = l.take (m + 1)) (hL : l.take (m + 1) = l.take m ++ [c]) (Hn : N = (upf f (l.take (m + 1)).reverse).reverse ++ q.drop (m + 1)) (hK : wrapC c = some d) :
    (q.set m d).take m = l.take m ∧ N = (upf f (l.take m).reverse).reverse ++ (q.set m d).drop m := by
  have ht : q.take m = l.take m := by
    have := congrArg (List.take m) Ht
    rwa [List.take_take, List.take_take, Nat.min_eq_left (Nat.le_succ m)] at this
  have hlen : (q.take m).length = m := by rw [List.length_take]; omega
  rw [set_split q m d hq]
  constructor
  · rw [List.take_left' hlen, ht]
  · rw [List.drop_left' hlen, Hn, hL, List.reverse_append]
    show (upf f (c :: (l.take m).reverse)).reverse ++ _ = _
    rw [upf_some hK, List.reverse_cons, List.append_assoc]; rfl
theorem step_inc {q l N : List UInt8} {m : Nat} {c f : UInt8} (hq : m < q.length) (Ht : q.take (m + 1) = l.take (m + 1)) (hL : l.take (m + 1) = l.take m ++ [c]) (Hn : N = (upf f (l.take (m + 1)).reverse).reverse ++ q.drop (m + 1)) (hK : wrapC c = none) :
    N = q.set m (c + 1) := by
  have ht : q.take m = l.take m := by
    have := congrArg (List.take m) Ht
    rwa [List.take_take, List.take_take, Nat.min_eq_left (Nat.le_succ m)] at this
  rw [set_split q m _ hq, ht, Hn, hL, List.reverse_append]
  show (upf f (c :: (l.take m).reverse)).reverse ++ _ = _
  rw [upf_none hK, List.reverse_cons, List.reverse_reverse, List.append_assoc]; rfl
theorem front_any (c : UInt8) (w : World) : Calls Tryd.prog 105 #[.int .u8 (c.toNat : Int)] w fun e w' => e = .returned (.string ⟨#[frontC c]⟩) ∧ w = w' := by
  have hc : (((c.toNat : Int) == 122) = true ∧ frontC c = 97) ∨ (((c.toNat : Int) == 122) = false ∧ ((c.toNat : Int) == 90) = true ∧ frontC c = 65) ∨ (((c.toNat : Int) == 122) = false ∧ ((c.toNat : Int) == 90) = false ∧ frontC c = 49) := by
    have e1 : ((c.toNat : Int) == 122) = decide (c = 122) := eqB c 122
    have e2 : ((c.toNat : Int) == 90) = decide (c = 90) := eqB c 90
    by_cases h1 : c = 122
    · subst h1; exact .inl ⟨rfl, rfl⟩
    by_cases h2 : c = 90
    · subst h2; exact .inr (.inl ⟨rfl, rfl, rfl⟩)
    rw [decide_eq_false h1] at e1
    rw [decide_eq_false h2] at e2
    exact .inr (.inr ⟨e1, e2, by unfold frontC; rw [if_neg h1, if_neg h2]⟩)
  generalize frontC c = f at *
  generalize (c.toNat : Int) = n at *
  rcases hc with ⟨k1, rfl⟩ | ⟨k1, k2, rfl⟩ | ⟨k1, k2, rfl⟩
  all_goals
    go_enter Tryd.func105, Tryd.ntmps105
    go_wp2
    go_ret
    exact ⟨rfl, rfl⟩
set_option maxHeartbeats 1000000 in
theorem further_no (s : ByteArray) (w : World) (hs : s.size ≤ 4096) (hT : Tab w) (hc : cnt s.data.toList = false) : Calls Tryd.prog 66 #[.string s] w (WriPost (further s.data.toList) w) := by
  have HF := Lib.hid (further_num hc)
  have HC := Lib.hid (fun w => isCounter_any s w (by omega))
  rw [hc] at HC
  have hb := number_bd s.data.toList
  have HT := Lib.hid (fun w => numberIn_any s w (by omega))
  have HTab := Lib.hid hT
  generalize number s.data.toList = N at *
  clear hc hT
  go_enter Tryd.func66, Tryd.ntmps66
  go_wp2_with fail
  refine (HC.out _).mono ?_
  rintro e w1 ⟨rfl, g1⟩
  go_wp2_with fail
  refine (HT.out _).mono ?_
  rintro e w2 ⟨rfl, g2⟩
  have hT2 : Hid (Tab w2) := Lib.hid (HTab.out.on (g1.trans g2))
  go_wp2_with fail
  refine (itoa_any _ (by omega) _ hT2.out).mono ?_
  rintro e w3 ⟨r, hr, rfl, g3⟩
  have Hr := Lib.hid hr
  clear hr
  go_wp2
  go_ret
  exact ⟨r, by rw [Hr.out, HF.out], rfl, (g1.trans g2).trans g3⟩
set_option maxHeartbeats 2000000 in
theorem further_yes (s : ByteArray) (w : World) (hp : 0 < s.size) (hs : s.size ≤ 4096) (hc : cnt s.data.toList = true) : Calls Tryd.prog 66 #[.string s] w (WriPost (nextL s.data.toList) w) := by
  have HC := Lib.hid (fun w => isCounter_any s w (by omega))
  rw [hc] at HC
  have hmem : Hid (∀ j (h : j < s.size), letB (s[j].toNat : Int) = true ∨ digB (s[j].toNat : Int) = true) := Lib.hid fun j h =>
    lets_mem (by unfold cnt at hc; rw [Bool.and_eq_true] at hc; exact hc.2) s[j] (List.mem_of_getElem? (getL s j h))
  have HN : Hid (nextL s.data.toList = (upf (frontC s[0]) s.data.toList.reverse).reverse) := Lib.hid (by
    have : s.data.toList = s[0] :: s.data.toList.drop 1 := drop_at s 0 hp
    rw [this]; rfl)
  have hconv := fun w => run_bytes_of_string (P := Tryd.prog) w 9 90 5 s Tryd.underlying9 Tryd.underlying90 Tryd.underlying5
  clear hc
  go_enter Tryd.func66, Tryd.ntmps66
  go_wp2_with fail
  refine (HC.out _).mono ?_
  rintro e w1 ⟨rfl, g1⟩
  have hconv1 := hconv w1
  have hrow := Lib.hid (RowIs.new (T := 5) g1 s (grownCap w1 s.size 0 5))
  clear hconv
  generalize grownCap w1 s.size 0 5 = cap at *
  go_wp2_with fail
  have hrow1 := Lib.hid hrow.out.drew
  clear hrow hconv1
  generalize w1.heap.size = B at *
  go_loopw [4] (fun i wr => ∃ m : Nat, m ≤ s.size ∧ ∃ z : Int, z = (m : Int) - 1 ∧ i = .int .i64 z ∧ ∃ q : List UInt8, q.length = s.size ∧ RowIs w wr B q ∧ Hid (q.take m = s.data.toList.take m) ∧ Hid (nextL s.data.toList = (upf (frontC s[0]) (s.data.toList.take m).reverse).reverse ++ q.drop m)) (fun i _ => (intOf i + 1).toNat)
  case atStart => exact ⟨s.size, Nat.le_refl _, _, rfl, rfl, s.data.toList, sizeL s, hrow1.out, Lib.hid rfl, Lib.hid (by rw [List.take_of_length_le (by rw [sizeL]; exact Nat.le_refl _), List.drop_of_length_le (by rw [sizeL]; exact Nat.le_refl _), List.append_nil]; exact HN.out)⟩
  case round =>
    obtain ⟨m, hm, z, hz, rfl, q, hq, hr, Ht, Hn⟩ := hrel
    cases m with
    | zero =>
      obtain rfl : z = -1 := by omega
      clear hz
      have hb := fun n => (hr.drewN n).back (cap := cap)
      rw [hq] at hb
      have hq1 : (⟨q.toArray⟩ : ByteArray).size ≤ 4096 := by show q.toArray.size ≤ 4096; simp; omega
      have Hg := Lib.hid hr.1
      have HQ : Hid (nextL s.data.toList = frontC s[0] :: q) := Lib.hid Hn.out
      have hF := Lib.hid (fun w => front_any s[0] w)
      clear hr Ht Hn
      go_wp2_with fail
      go_quiet ((go_at_call 105; first | exact quiet_at (hF.out _) | exact quiet_add (hF.out _)))
      go_wp2
      go_ret
      exact ⟨_, by rw [HQ.out, app_data]; rfl, rfl, Hg.out.drewN _⟩
    | succ m =>
      obtain rfl : z = (m : Int) := by omega
      clear hz
      have Hr := Lib.hid hr
      have hql : m < q.length := by omega
      obtain ⟨hcell, hfr⟩ := hr.2.2 m hql
      have hqm : q[m] = s[m] := by
        have := congrArg (fun l => l[m]?) Ht.out
        simp only [List.getElem?_take_of_lt (Nat.lt_succ_self m)] at this
        rw [getL s m (by omega), List.getElem?_eq_getElem hql] at this
        exact Option.some.inj this
      rw [hqm] at hcell
      have hL : Hid (s.data.toList.take (m + 1) = s.data.toList.take m ++ [s[m]]) := Lib.hid (by rw [List.take_add_one, getL s m (by omega)]; rfl)
      rcases wrap_cases s[m] (hmem.out m (by omega)) with ⟨k1, k3, k4, k5⟩ | ⟨k1, k2, k3, k4, k5⟩ | ⟨k1, k2, k3, k4, k5⟩ | ⟨k1, k2, k3, k4, k5⟩
      case inr.inr.inr =>
        clear hr
        have hb := (Hr.out.set m hql (s[m] + 1)).back (cap := cap)
        have hi : ((s[m] + 1).toNat : Int) = (s[m].toNat : Int) + 1 := by
          rw [UInt8.toNat_add]
          have : s[m].toNat ≤ 121 := by omega
          show (((s[m].toNat + 1) % 256 : Nat) : Int) = _
          omega
        rw [hi, List.length_set, hq] at hb
        have Hg := Lib.hid (Hr.out.set m hql (s[m] + 1)).1
        rw [hi] at Hg
        have HS := Lib.hid (step_inc hql Ht.out hL.out Hn.out k4)
        have Hk4 := Lib.hid k4
        have hst : Hid (q.set m (s[m] + 1) = q.set m (s[m] + 1)) := Lib.hid rfl
        clear k4 Ht Hn hL hi hst
        generalize q.set m (s[m] + 1) = q' at *
        go_wp2
        go_ret
        exact ⟨_, by rw [HS.out], rfl, Hg.out⟩
      all_goals
        clear hr k5
        have HS := Lib.hid (step_wrap hql Ht.out hL.out Hn.out k4)
        clear k4
        go_wp2_with fail
        refine ⟨⟨m, by omega, (m : Int) - 1, rfl, rfl, _, ?_, ?_, Lib.hid HS.out.1, Lib.hid HS.out.2⟩, ?_⟩
        · rw [List.length_set, hq]
        · first | exact Hr.out.set m hql 97 | exact Hr.out.set m hql 65 | exact Hr.out.set m hql 48
        · simp [intOf]
theorem further_any (s : ByteArray) (w : World) (hs : s.size ≤ 4096) (hT : Tab w) : Calls Tryd.prog 66 #[.string s] w (WriPost (further s.data.toList) w) := by
  rcases hc : cnt s.data.toList with _ | _
  · exact further_no s w hs hT hc
  · rw [further_cnt hc]
    have hp : 0 < s.size := by
      rcases Nat.eq_zero_or_pos s.size with h | h
      · rw [nil_of_zero s (by omega)] at hc; cases hc
      · exact h
    exact further_yes s w hp hs hc
end Go.Proofs.YthdchkjipafmfaaDoor
