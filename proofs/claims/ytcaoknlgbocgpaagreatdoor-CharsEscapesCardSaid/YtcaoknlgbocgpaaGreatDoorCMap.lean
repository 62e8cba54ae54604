/- The program's mapped: a text with each character replaced. -/
import Derived.Test.YtcaoknlgbocgpaaGreatDoorCPts
namespace Go.Proofs.YtcaoknlgbocgpaaGreatDoor
open Go.RowKit Go.Shelf
/-- each character by its form, which may depend on the bytes before it -/
def mapF (f : Nat → Int → List UInt8) : List Int → Nat → List UInt8
  | [], _ => []
  | c :: r, p => f p c ++ mapF f r (p + (oneL c).length)
theorem mapF_flat (h : Int → List UInt8) (l : List Int) : ∀ p, mapF (fun _ => h) l p = l.flatMap h := by
  induction l with
  | nil => intro p; rfl
  | cons c l ih => intro p; rw [mapF, ih, List.flatMap_cons]
theorem mapF_len {f : Nat → Int → List UInt8} (hf : ∀ p c, (f p c).length ≤ 16) (l : List Int) : ∀ p, (mapF f l p).length ≤ 16 * l.length := by
  induction l with
  | nil => intro p; simp [mapF]
  | cons c l ih => intro p; rw [mapF, List.length_append, List.length_cons]; have := ih (p + (oneL c).length); have := hf p c; omega
def FormOk (g : FuncId) (f : Nat → Int → List UInt8) (w0 : World) : Prop := ∀ (p : Nat) (c : Int) (w : World), Gr w0 w → p ≤ 4096 → isCh c = true → Calls Tryz.prog g #[.int .i64 p, .int .i32 c] w fun e w' => e = .returned (.string ⟨(f p c).toArray⟩) ∧ Gr w w'
theorem At.width {l : List UInt8} {p j : Nat} (h : At l p j) (hp : p < l.length) : (oneL (firstL (l.drop p)).1).length = (firstL (l.drop p)).2 := by
  rw [(one_first (h.first hp)).2, List.length_take]
  have := firstL_len (l.drop p)
  omega
set_option maxRecDepth 100000 in
set_option maxHeartbeats 4000000 in
theorem mapped_p (g : FuncId) (f : Nat → Int → List UInt8) (hlen : ∀ p c, (f p c).length ≤ 16) (s : ByteArray) (hs : s.size ≤ 4096) (hv : (validL s.data.toList).2 = true) (w : World) (hf : FormOk g f w)
    (eg : ∀ args w, (callFunc g args).run Tryz.prog w = .ok (.enter g args) w) :
    Calls Tryz.prog 54 #[.string s, .func (.func g) #[] #[]] w fun e w' => e = .returned (.string ⟨(mapF f (runesL s.data.toList) 0).toArray⟩) ∧ Gr w w' := by
  have hA := Lib.hid (At.start hv)
  have hml := mapF_len hlen (runesL s.data.toList) 0
  have hrl := runesL_len s.data.toList
  rw [sizeL] at hrl
  have Hlen := Lib.hid hlen
  have Hf := Lib.hid hf
  have HR : Hid (mapF f (runesL s.data.toList) 0 = [] ++ mapF f ((runesL s.data.toList).drop 0) 0) := Lib.hid rfl
  clear hv hlen hf
  generalize hR : mapF f (runesL s.data.toList) 0 = R at *
  clear hR
  go_enter Tryz.func54, Tryz.ntmps54
  go_wp2_with fail
  go_loopw [] (fun wr => ∃ (pos j : Nat) (acc : List UInt8), At s.data.toList pos j ∧ wr.heap[w.heap.size + 1]? = some (.stringIter s pos) ∧ Gr w wr ∧ Bld w.heap.size acc wr ∧ Hid (R = acc ++ mapF f ((runesL s.data.toList).drop j) pos)) (fun wr => s.size - wr.iterPos (w.heap.size + 1))
  case atStart =>
    refine ⟨0, 0, [], hA.out, ?_, ((Below.refl _ w).alloc (Nat.le_refl _) _).alloc (by simp) _, (bld_new w).gr ((Gr.refl _).alloc _), HR⟩
    have := World.iter_heap (w.alloc (.cells #[.pointer none, .slice none 0 0] 48)) s 0
    simpa using this
  case round =>
    obtain ⟨pos, j, acc, hat, hit, hg, hbl, hR⟩ := hrel
    clear HR
    have hal : acc.length ≤ 65536 := by
      have := congrArg List.length hR.out
      rw [List.length_append] at this
      omega
    by_cases hp : pos < s.size
    · have hpL : pos < s.data.toList.length := by rw [sizeL]; exact hp
      have hnx : ∀ ty, (Instr.next (.pointer (some ⟨w.heap.size + 1, 0, none⟩)) true ty).run Tryz.prog wr = _ := fun ty => Lib.run_next_any_at wr (w.heap.size + 1) s pos ty hit hp
      have hn := hat.first hpL
      have hch := hat.ch hpL
      have hcb := isCh_true.1 hch
      have hlen := firstL_len (s.data.toList.drop pos)
      rw [List.length_drop, sizeL] at hlen
      rw [decode_ok hp hn] at hnx
      have Hat := Lib.hid (hat.next hpL)
      have hwd := hat.width hpL
      have HR2 : Hid (R = (acc ++ f pos (firstL (s.data.toList.drop pos)).1) ++ mapF f ((runesL s.data.toList).drop (j + 1)) (pos + (firstL (s.data.toList.drop pos)).2)) := Lib.hid (by
        rw [hR.out, hat.drop hpL, mapF, hwd, List.append_assoc])
      have hgb := Lib.hid (Lib.below_iterAt hg (k := w.heap.size + 1) (by omega) s (pos + (firstL (s.data.toList.drop pos)).2))
      have Hbl2 : Hid (Bld w.heap.size acc (wr.iterAt (w.heap.size + 1) s (pos + (firstL (s.data.toList.drop pos)).2))) := Lib.hid (Lib.IsBuilderF.iterAt hbl hit _)
      have Hit2 := Lib.hid (Lib.iterAt_heap wr (w.heap.size + 1) s pos (pos + (firstL (s.data.toList.drop pos)).2) hit)
      have Hit := Lib.hid hit
      clear hit hg hat hbl hR hwd
      have hc32 : ((firstL (s.data.toList.drop pos)).1.toNat : Int) = (firstL (s.data.toList.drop pos)).1 := by omega
      rw [hc32] at hnx
      generalize hce : (firstL (s.data.toList.drop pos)).1 = c at *
      generalize (firstL (s.data.toList.drop pos)).2 = n at *
      generalize hw2 : wr.iterAt (w.heap.size + 1) s (pos + n) = w2 at *
      clear hce hc32 hw2
      have hlen16 := Hlen.out pos c
      have HF := Lib.hid (Hf.out pos c w2 hgb.out (by omega) hch)
      generalize f pos c = x at *
      have hxs : (⟨x.toArray⟩ : ByteArray).size = x.length := by show x.toArray.size = _; simp
      go_wp2_with fail
      refine HF.out.mono ?_
      rintro e w3 ⟨rfl, g3⟩
      have Hbl3 := Lib.hid (Hbl2.out.gr g3)
      have Hit3 := Lib.hid (iter_gr Hit2.out g3)
      have Hg3 : Hid (Gr w w3) := Lib.hid (Gr.trans hgb.out g3)
      have HW := Lib.hid (bld_string ⟨x.toArray⟩ Hbl3.out (by rw [hxs]; omega) (Gr.size Hg3.out))
      go_wp2_with (go_at_call 33; refine HW.out.mono ?_; rintro e w4 ⟨rfl, h4, b4, k4⟩)
      have Hit4 : Hid (w4.heap[w.heap.size + 1]? = some (.stringIter s (pos + n))) := Lib.hid (Lib.OthersKept.iter k4 Hit3.out (by omega))
      go_roundw
      case rel => exact ⟨pos + n, j + 1, acc ++ x, Hat.out, Hit4.out, Below.trans Hg3.out b4, h4, HR2⟩
      case measure =>
        have h1 := Hit.out
        have h2 := Hit4.out
        simp only [World.iterPos, h1, h2]
        omega
    · have hnx : ∀ ty, (Instr.next (.pointer (some ⟨w.heap.size + 1, 0, none⟩)) true ty).run Tryz.prog wr = _ := fun ty => Lib.run_next_end_at wr (w.heap.size + 1) s pos ty hit hp
      have hf := hat.fin (by rw [sizeL]; exact hp)
      have HE : Hid (R = acc) := Lib.hid (by rw [hR.out, hf, List.drop_length]; simp [mapF])
      have Hg := Lib.hid hg
      have HB := Lib.hid (bld_text hbl (Below.size hg))
      clear hf hat hit hg hbl hR
      go_wp2_with (go_at_call 34; refine HB.out.mono ?_; rintro e w3 ⟨rfl, g3⟩)
      go_ret
      exact ⟨by rw [HE.out]; rfl, Below.trans Hg.out g3⟩
end Go.Proofs.YtcaoknlgbocgpaaGreatDoor
