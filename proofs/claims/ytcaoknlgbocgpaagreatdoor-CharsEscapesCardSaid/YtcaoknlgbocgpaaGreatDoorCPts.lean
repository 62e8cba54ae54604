/- The program's check, points, Points. -/
import Derived.Test.YtcaoknlgbocgpaaGreatDoorCRef3
import Derived.Test.YtcaoknlgbocgpaaGreatDoorCInts
namespace Go.Proofs.YtcaoknlgbocgpaaGreatDoor
open Go.RowKit Go.Shelf
def chkL : List (List UInt8) → Int
  | [] => 0
  | l :: r => if chkE l = 0 then chkL r else chkE l
theorem chkL_on {l : List UInt8} {r : List (List UInt8)} (h : chkE l = 0) : chkL (l :: r) = chkL r := if_pos h
theorem chkL_no {l : List UInt8} {r : List (List UInt8)} (h : ¬ chkE l = 0) : chkL (l :: r) = chkE l := if_neg h
theorem chkL_one (l : List UInt8) : chkL [l] = chkE l := by
  by_cases h : chkE l = 0
  · rw [chkL_on h, h]; rfl
  · exact chkL_no h
theorem chkL_two (l m : List UInt8) : chkL [l, m] = chk2 l m := by
  unfold chk2
  by_cases h : chkE l = 0
  · rw [chkL_on h, chkL_one, if_pos h]
  · rw [chkL_no h, if_neg h]
set_option maxRecDepth 100000 in
set_option maxHeartbeats 2000000 in
theorem check_p (b cap : Nat) (ts : List ByteArray) (w : World) (hb : b < w.heap.size) (hn : ts.length ≤ 2) (hc : ∀ j (h : j < ts.length), w.cell? ⟨b, j, none⟩ = some (.string ts[j])) :
    Calls Tryz.prog 31 #[.slice (some ⟨b, 0, none⟩) ts.length cap] w fun e w' => e = .returned (.int .i64 (chkL (ts.map (·.data.toList)))) ∧ Gr w w' := by
  have H0 : Hid (chkL (ts.map (·.data.toList)) = chkL ((ts.map (·.data.toList)).drop 0)) := Lib.hid rfl
  have HC := Lib.hid hc
  have HD : Hid (∀ k (h : k < ts.length), (ts.map (·.data.toList)).drop k = ts[k].data.toList :: (ts.map (·.data.toList)).drop (k + 1)) := Lib.hid (fun k h => by
    rw [List.drop_eq_getElem_cons (by simpa using h)]; simp)
  have HN : Hid ((ts.map (·.data.toList)).drop ts.length = []) := Lib.hid (List.drop_eq_nil_of_le (by simp))
  clear hc
  generalize chkL (ts.map (·.data.toList)) = Q at *
  generalize hT : ts.map (·.data.toList) = T at *
  clear hT
  go_enter Tryz.func31, Tryz.ntmps31
  go_wp2_with fail
  go_loopw [9] (fun iv wr => ∃ k : Nat, k ≤ ts.length ∧ iv = .int .i64 k ∧ Gr w wr ∧ Hid (Q = chkL (T.drop k))) (fun iv _ => ts.length - (intOf iv).toNat)
  case atStart => exact ⟨0, Nat.zero_le _, rfl, Gr.refl w, H0⟩
  case round =>
    obtain ⟨k, hk, rfl, hg, HQ⟩ := hrel
    clear H0
    by_cases hlt : k < ts.length
    · have hcell : wr.cell? ⟨b, k, none⟩ = some (.string ts[k]) := by rw [hg.cell hb]; exact HC.out k hlt
      have hd := HD.out k hlt
      have HV := Lib.hid (fun w => valid_p ts[k] w)
      have Hg := Lib.hid hg
      clear hg
      by_cases h1 : 4096 < ts[k].size
      · have HE : Hid (Q = 3) := Lib.hid (by
          have he := chkE_long (l := ts[k].data.toList) (by rw [sizeL]; exact h1)
          rw [HQ.out, hd, chkL_no (by rw [he]; decide), he])
        clear hd
        generalize ts[k] = s at *
        go_wp2
        go_ret
        exact ⟨by rw [HE.out]; rfl, Hg.out⟩
      · cases hv : (validL ts[k].data.toList).2
        · have HE : Hid (Q = 2) := Lib.hid (by
            have he := chkE_bad (l := ts[k].data.toList) (by rw [sizeL]; exact h1) hv
            rw [HQ.out, hd, chkL_no (by rw [he]; decide), he])
          rw [hv] at HV
          clear hd hv
          generalize ts[k] = s at *
          go_wp2_with (go_at_call 56; refine (HV.out _).mono ?_; rintro e w3 ⟨rfl, g3⟩)
          go_ret
          exact ⟨by rw [HE.out]; rfl, Hg.out.trans g3⟩
        · have HE : Hid (Q = chkL (T.drop (k + 1))) := Lib.hid (by
            have he := chkE_ok (l := ts[k].data.toList) (by rw [sizeL]; exact h1) hv
            rw [HQ.out, hd, chkL_on he])
          rw [hv] at HV
          clear hd hv
          generalize ts[k] = s at *
          go_wp2_with (go_at_call 56; refine (HV.out _).mono ?_; rintro e w3 ⟨rfl, g3⟩)
          go_roundw
          case rel => exact ⟨k + 1, by omega, by go_num, Hg.out.trans g3, HE⟩
          case measure => simp [intOf]; omega
    · obtain rfl : k = ts.length := by omega
      have HE : Hid (Q = 0) := Lib.hid (by rw [HQ.out, HN.out]; rfl)
      have Hg := Lib.hid hg
      clear hg
      go_wp2
      go_ret
      exact ⟨by rw [HE.out]; rfl, Hg.out⟩
/-- one text, in a row of the call's own -/
theorem check1 (s : ByteArray) (w w' : World) (T : TypeId) (fr : Nat × Nat) (hw : w' = w.alloc (.cells #[.string s] T fr)) :
    Calls Tryz.prog 31 #[.slice (some ⟨w.heap.size, 0, none⟩) 1 1] w' fun e w'' => e = .returned (.int .i64 (chkE s.data.toList)) ∧ Gr w w'' := by
  subst hw
  have := check_p w.heap.size 1 [s] (w.alloc (.cells #[.string s] T fr)) (by simp) (by simp) (fun j h => by
    have : j = 0 := by simp at h; omega
    subst this
    rw [World.cell?_alloc_mark]; simp)
  rw [show ([s].map (fun x : ByteArray => x.data.toList)) = [s.data.toList] from rfl, chkL_one] at this
  exact this.mono fun _ _ ⟨he, hg⟩ => ⟨he, ((Gr.refl w).alloc _).trans hg⟩
theorem check2 (s t : ByteArray) (w w' : World) (T : TypeId) (fr : Nat × Nat) (hw : w' = w.alloc (.cells #[.string s, .string t] T fr)) :
    Calls Tryz.prog 31 #[.slice (some ⟨w.heap.size, 0, none⟩) 2 2] w' fun e w'' => e = .returned (.int .i64 (chk2 s.data.toList t.data.toList)) ∧ Gr w w'' := by
  subst hw
  have := check_p w.heap.size 2 [s, t] (w.alloc (.cells #[.string s, .string t] T fr)) (by simp) (by simp) (fun j h => by
    have : j = 0 ∨ j = 1 := by simp at h; omega
    rcases this with rfl | rfl
    · rw [World.cell?_alloc_mark]; simp
    · rw [World.cell?_alloc_mark]; simp)
  rw [show ([s, t].map (fun x : ByteArray => x.data.toList)) = [s.data.toList, t.data.toList] from rfl, chkL_two] at this
  exact this.mono fun _ _ ⟨he, hg⟩ => ⟨he, ((Gr.refl w).alloc _).trans hg⟩
theorem OwnI.iterAt {w : World} {base : Nat} {v : Value} {l : List Int} (h : OwnI w base v l) {k : Nat} {s : ByteArray} {p : Nat} (hk : w.heap[k]? = some (.stringIter s p)) (p' : Nat) : OwnI (w.iterAt k s p') base v l := by
  refine ⟨h.1, ?_⟩
  rcases h.2 with hn | ⟨g, cap, cur, e, h1, h2, h3⟩
  · exact .inl hn
  · have hgk : g ≠ k := by
      intro e1; rw [e1, hk] at h2; cases h2
    exact .inr ⟨g, cap, cur, e, h1, (Lib.iterAt_other w k g s p' hgk).trans h2, h3⟩
theorem OwnI.notIter {w : World} {base : Nat} {v : Value} {l : List Int} (h : OwnI w base v l) {k : Nat} {s : ByteArray} {p : Nat} (hk : w.heap[k]? = some (.stringIter s p)) : some k ≠ v.ownBlock := by
  rcases h.2 with ⟨rfl, _⟩ | ⟨g, cap, cur, rfl, h1, h2, h3⟩
  · simp [Value.ownBlock]
  · simp only [Value.ownBlock, ne_eq, Option.some.injEq]
    rintro rfl
    rw [hk] at h2; cases h2
theorem infoInt : (Tryz.prog.info? 3).map (fun i => (i.zero, i.size, i.bytes)) = some (some (.int .i64 0), 1, 8) := by kernel_rfl
def PtsPost (l : List Int) (w : World) (e : Ending) (w' : World) : Prop := ∃ v, e = .returned v ∧ OwnI w' w.heap.size v l ∧ Gr w w'
end Go.Proofs.YtcaoknlgbocgpaaGreatDoor
