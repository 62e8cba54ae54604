import Derived.Test.YthmopindibdhnaaGreatDoorQ00
import Derived.Test.YthmopindibdhnaaGreatDoorQ21
import Derived.Test.YthmopindibdhnaaGreatDoorQ26
namespace Go.Proofs.YthmopindibdhnaaGreatDoor.G
open Go.RowKit Go.Shelf Go.Maps
variable {w w' X : World} {P base : Nat} {s : ByteArray} {pv : Value} {at_ : Nat} {tv bv : Value} {tm : Bool} {ov : Value} {en : Nat} {sg : Bool} {G : Prop} {S : Src} {rt : List RTok} {tms : List Bool} {ops : List Nat} {ks : List Tok}
def CutP (G : Prop) (P base : Nat) (S : Src) (a : Nat) (tm : Bool) (en : Nat) (rt : List RTok) (tms : List Bool) (ops : List Nat) (ks : List Tok) (tv bv ov : Value) (n0 : Nat) (w : World) (Y : Option (List UInt8 × Src)) (e : Ending) (w' : World) : Prop :=
 match Y with
 | none => e = .returned (.tuple #[.string ⟨#[]⟩, .bool false]) ∧ Gr w w'
 | some r => e = .returned (.tuple #[.string (ba r.1), .bool true]) ∧ ∃ s' pv', RSt G w' P base (S.take n0 ++ r.2) a tm en rt tms ops ks s' pv' tv bv ov ∧ Fr P base w w'
theorem lines_nil (name : List UInt8) : ∀ f, linesS name f [] = none
 | 0 => rfl
 | f + 1 => by rw [linesS, if_pos rfl]
def linesX (name : List UInt8) (S : Src) (b a f : Nat) : Option (List UInt8 × Src) := (linesS name f (S.drop a)).map fun r => ((byt S).extract b a ++ r.1, r.2)
theorem linesX_0 (name : List UInt8) (S : Src) (b f : Nat) : linesX name S b b f = linesS name f (S.drop b) := by
 unfold linesX
 rw [List.extract_eq_take_drop, Nat.sub_self, List.take_zero]
 cases linesS name f (S.drop b) <;> rfl
theorem linesX_end (name : List UInt8) {S : Src} (b f : Nat) {a : Nat} (h : S.length ≤ a) : linesX name S b a f = none := by
 unfold linesX
 rw [List.drop_eq_nil_of_le h, lines_nil]; rfl
theorem ext_app (l : List UInt8) {b a c : Nat} (h1 : b ≤ a) (h2 : a ≤ c) : l.extract b a ++ l.extract a c = l.extract b c := by
 simp only [List.extract_eq_take_drop]
 have e1 : c - b = (a - b) + (c - a) := by omega
 have e2 : l.drop a = (l.drop b).drop (a - b) := by rw [List.drop_drop]; congr 1; omega
 rw [e1, List.take_add, e2]
theorem linesX_yes (name : List UInt8) {S : Src} (b f : Nat) {a E : Nat} (ha : a < S.length) (hE : E = a + lnN (S.drop a)) (hn : (byt S).extract a E = name) : linesX name S b a (f + 1) = some ((byt S).extract b a, S.drop (E + 1)) := by
 unfold linesX
 rw [linesS_at name f ha hE, if_pos hn]
 simp
theorem linesX_no (name : List UInt8) {S : Src} (b f : Nat) {a E : Nat} (hba : b ≤ a) (ha : a < S.length) (hE : E = a + lnN (S.drop a)) (hn : (byt S).extract a E ≠ name) : linesX name S b a (f + 1) = linesX name S b (E + 1) f := by
 unfold linesX
 rw [linesS_at name f ha hE, if_neg hn, Option.map_map]
 congr 1
 funext r
 show ((byt S).extract b a ++ ((byt S).extract a (E + 1) ++ r.1), r.2) = _
 rw [← List.append_assoc, ext_app _ hba (by omega)]
theorem cut_src {S : Src} {s : ByteArray} (hS : s.data.toList = byt S) (b d : Nat) : (s.extract 0 b ++ s.extract d s.size).data.toList = byt (S.take b ++ S.drop d) := by
 rw [app_data, takeB, dropE, hS, byt_app, byt_take, byt_drop]
def placesL (T : Src) : List Value := T.map fun x => Value.int .i64 (x.1 : Int)
theorem placesL_one : ∀ {T : Src}, ∀ u ∈ placesL T, u.oneCell' = true := by
 intro T u hu
 unfold placesL at hu
 obtain ⟨x, _, rfl⟩ := List.mem_map.1 hu
 rfl
theorem placesL_take {T : Src} {n j : Nat} {u : Value} (h : (placesL (T.take n))[j]? = some u) : (T.map fun x => Value.int .i64 (x.1 : Int))[j]? = some u := by
 unfold placesL at h
 rw [List.map_take, List.getElem?_take] at h
 split at h
 ·exact h
 ·cases h
theorem placesL_drop {T : Src} {n j : Nat} {u : Value} (h : (placesL (T.drop n))[j]? = some u) : (T.map fun x => Value.int .i64 (x.1 : Int))[n + j]? = some u := by
 unfold placesL at h
 rw [List.map_drop, List.getElem?_drop] at h
 exact h
theorem src_cell {X : World} {gp a j : Nat} {u : Value} (h : X.cell? ⟨gp, a + j, none⟩ = some u) : X.cell? ((⟨gp, a, none⟩ : Addr).add j) = some u := by
 have hadd : (⟨gp, a, none⟩ : Addr).add j = ⟨gp, a + j, none⟩ := by unfold Addr.add; split <;> simp_all
 rw [hadd]; exact h
theorem cut_keep {W w1 : World} {gp j : Nat} {u : Value} (k : W.drew.grownBy w1 (Value.slice none 0 0).ownBlock) (hg : gp < W.heap.size) (h : W.cell? ⟨gp, j, none⟩ = some u) : w1.cell? ⟨gp, j, none⟩ = some u := by
 have : w1.heap[gp]? = W.heap[gp]? := k.block gp hg (by simp [Value.ownBlock])
 unfold World.cell? at *
 rw [this]; exact h
theorem cut_two {W w1 w2 : World} {v1 : Value} {e : TypeId} {sz n : Nat} {xs : List Value} (k1 : W.drew.grownBy w1 (Value.slice none 0 0).ownBlock) (O1 : w1.ownsRow W.heap.size e sz v1 n xs) (k2 : w1.grownBy w2 v1.ownBlock) : Gr W w2 :=
 ⟨k2.os.trans k1.os, k2.tape.trans k1.tape, k2.output.trans k1.output, Nat.le_trans k1.size k2.size, fun k hk => (k2.block k (Nat.lt_of_lt_of_le hk k1.size) (fun e => own_apart O1 (.inl hk) e.symm)).trans (k1.block k hk (by simp [Value.ownBlock]))⟩
theorem own_0 {w : World} {b sz n : Nat} {e : TypeId} {v : Value} {xs : List Value} (h : w.ownsRow b e sz v (0 + n) ([] ++ xs)) : w.ownsRow b e sz v n xs := by rw [Nat.zero_add] at h; exact h
theorem cut_cell {gp j : Nat} {u : Value} {s' : ByteArray} {capp : Nat} (h : RSt G w P base S at_ tm en rt tms ops ks s (.slice (some ⟨gp, 0, none⟩) S.length capp) tv bv ov) (_hg : gp < w.heap.size) (hc : w.cell? ⟨gp, j, none⟩ = some u) : ((w.setCell ⟨P, 0, none⟩ (.string s')).drew).cell? ⟨gp, j, none⟩ = some u := by
 have hne : P ≠ gp := fun e => own_apart h.p (.inl h.pb) (by rw [e]; rfl)
 have : ((w.setCell ⟨P, 0, none⟩ (.string s')).drew).heap[gp]? = w.heap[gp]? := by
  show (w.setCell ⟨P, 0, none⟩ (.string s')).heap[gp]? = _
  simp [World.setCell, Array.getElem?_modify, hne]
 unfold World.cell? at *
 rw [this]; exact hc
theorem cut_fin {s' : ByteArray} {S' : Src} {w2 : World} {v2 : Value} (h : RSt G w P base S at_ tm en rt tms ops ks s pv tv bv ov) (hs' : s'.data.toList = byt S') (hsub : ∀ c ∈ byt S', c ∈ byt S) (hlen : S'.length ≤ S.length)
  (g : Gr ((w.setCell ⟨P, 0, none⟩ (.string s')).drew) w2) (hv : w2.ownsRow w.heap.size 3 1 v2 S'.length (S'.map fun x => Value.int .i64 (x.1 : Int))) :
  RSt G (w2.setCell ⟨P, 1, none⟩ v2) P base S' at_ tm en rt tms ops ks s' v2 tv bv ov ∧ Fr P base w (w2.setCell ⟨P, 1, none⟩ v2) := by
 have g2 : Gr (w.setCell ⟨P, 0, none⟩ (.string s')) w2 := ((Gr.refl _).drew).trans g
 have hbw := h.bw
 have hz0 : (w.setCell ⟨P, 0, none⟩ (.string s')).heap.size = w.heap.size := by simp [World.setCell]
 have hz : base ≤ w2.heap.size := by have := g2.size; omega
 have tP : some P ≠ tv.ownBlock := fun e => own_apart h.t (.inl h.pb) e.symm
 have bP : some P ≠ bv.ownBlock := fun e => own_apart h.b (.inl h.pb) e.symm
 have vP : some P ≠ v2.ownBlock := fun e => own_apart hv (.inl (by have := h.sc.lt; omega)) e.symm
 have F : Fr P base w (w2.setCell ⟨P, 1, none⟩ v2) := Fr.but (Fr.but (Fr.of_but (But.set (P := P) 0 (.string s')) hbw) (But.of_gr g2) (by omega)) (But.set (P := P) 1 v2) hz
 have hap : ∀ i, ov.ownBlock = some i → v2.ownBlock ≠ some i := fun i h1 h2 => by
  obtain ⟨_, cur, h3⟩ := h.o.ge h1
  have h4 := (own_ge hv h2).1
  have h5 := (Ag h3).1
  omega
 have hO : OwnO (w2.setCell ⟨P, 1, none⟩ v2) base ov ops.reverse := h.o.keep ((((KeepI.refl base w).set h.pb 0 (.string s')).gr g2).set h.pb 1 v2)
 exact ⟨⟨hs', ((h.sc.setS s').gr g2).setPv v2, own_set (ownsRow_gr (own_set h.t tP 0 _) g2) tP 1 _, own_set (ownsRow_gr (own_set h.b bP 0 _) g2) bP 1 _, hO, own_set (own_mono hv hbw) vP 1 _, h.lk, fun hg c hc => h.gs hg c (hsub c hc), Nat.le_trans hlen h.le, h.tl, hap, h.pb, by simpa [World.setCell] using hz⟩, F⟩
theorem cut_nil {w : World} {b n d : Nat} {e : TypeId} {v : Value} {xs : List Value} (h : S.length ≤ d) (o : w.ownsRow b e 1 v (n + 0) (xs ++ [])) : w.ownsRow b e 1 v (n + (S.length - d)) (xs ++ placesL (S.drop d)) := by
 rw [List.drop_eq_nil_of_le h, show S.length - d = 0 by omega]
 exact o
theorem cut_join {n B : Nat} (h : n ≤ B) (X : Src) : S.take n ++ ((S.drop n).take (B - n) ++ X) = S.take B ++ X := by
 rw [← List.append_assoc]
 congr 1
 have := List.take_add (l := S) (i := n) (j := B - n)
 rw [show n + (B - n) = B by omega] at this
 exact this.symm
theorem barr_of' (s : ByteArray) (a b : Nat) : s.extract a b = ba (s.data.toList.extract a b) := by
 have e : (s.extract a b).data.toList = s.data.toList.extract a b := by rw [extractE, List.extract_eq_take_drop]
 exact ba_eq (by rw [ba_data, e])
theorem cut_end {s' : ByteArray} {W w2 : World} {v2 : Value} {B d : Nat} (h : RSt G w P base S at_ tm en rt tms ops ks s pv tv bv ov) (hW : (w.setCell ⟨P, 0, none⟩ (.string s')).drew = W) (hs' : s'.data.toList = byt (S.take B ++ S.drop d)) (hBS : B ≤ S.length) (hBd : B ≤ d) (hd : d ≤ S.length)
  (g : Gr W w2) (o : w2.ownsRow W.heap.size 3 1 v2 (B + (S.length - d)) (placesL (S.take B) ++ placesL (S.drop d))) :
  RSt G (w2.setCell ⟨P, 1, none⟩ v2) P base (S.take B ++ S.drop d) at_ tm en rt tms ops ks s' v2 tv bv ov ∧ Fr P base w (w2.setCell ⟨P, 1, none⟩ v2) := by
 subst hW
 have e1 : (S.take B ++ S.drop d).length = B + (S.length - d) := by simp; omega
 have e2 : ((S.take B ++ S.drop d).map fun x => Value.int .i64 (x.1 : Int)) = placesL (S.take B) ++ placesL (S.drop d) := by unfold placesL; rw [List.map_append]
 have e3 : (w.setCell ⟨P, 0, none⟩ (.string s')).drew.heap.size = w.heap.size := by show (w.setCell ⟨P, 0, none⟩ (.string s')).heap.size = _; simp [World.setCell]
 refine cut_fin h hs' (fun c hc => ?_) (by rw [e1]; omega) g ?_
 ·rw [byt_app, List.mem_append] at hc
  rcases hc with hc | hc
  ·rw [byt_take] at hc; exact List.mem_of_mem_take hc
  ·rw [byt_drop] at hc; exact List.mem_of_mem_drop hc
 ·rw [e1, e2, ← e3]; exact o
set_option maxRecDepth 100000 in
set_option maxHeartbeats 4000000 in
theorem cut_r (h : RSt G w P base S at_ tm en rt tms ops ks s pv tv bv ov) (n0 : Nat) (hn0 : n0 ≤ S.length) (nm : ByteArray) :
  Calls Tryz.prog 70 #[.pointer (some ⟨P, 0, none⟩), .int .i64 (n0 : Int), .string nm] w (CutP G P base S at_ tm en rt tms ops ks tv bv ov n0 w (cutS nm.data.toList (S.drop n0))) := by
 have hsz := h.size
 have Hsz := Lh hsz
 have hle := h.le
 have HS := Lh h.eq
 have HBy := Lh (fun n h1 h2 => byt_at h.eq n h1 h2)
 obtain ⟨E, hE⟩ : ∃ E, E = n0 + lnN (S.drop n0) := ⟨_, rfl⟩
 have hEl : E ≤ S.length := by have := lnN_le (S.drop n0); rw [List.length_drop] at this; omega
 rw [cutS_at nm.data.toList hE]
 obtain ⟨Y, hY⟩ : ∃ Y, Y = (if E < S.length then (linesS nm.data.toList (S.length - E) (S.drop (E + 1))).map (fun r => (r.1, (S.drop n0).take (E + 1 - n0) ++ r.2)) else none) := ⟨_, rfl⟩
 rw [← hY]
 have HY := Lh hY
 have H := Lh h
 have HE := Lh hE
 obtain ⟨c0, c1, c2, c3, c4, c5, c6, c7, c8, cf⟩ := h.sc.cells
 have Hn0 := Lh hn0
 clear h hY hE hn0
 go_enter Tryz.func70, Tryz.ntmps70
 go_wp2_with fail
 go_loopw [1] (fun iv wr => ∃ n : Nat, iv = .int .i64 (n : Int) ∧ Hid (n ≤ s.size) ∧ Hid (n0 ≤ n) ∧ Hid (n + lnN (S.drop n) = E) ∧ w = wr) (fun iv _ => leftTo s.size iv)
 case atStart => exact ⟨n0, rfl, Lh (by have := Hn0.out; omega), Lh (Nat.le_refl _), Lh HE.out.symm, rfl⟩
 case round =>
  obtain ⟨n, rfl, hns, hn0n, hnE, rfl⟩ := hrel
  by_cases hc : n < s.size
  ·have hci : (n : Int) < (s.size : Int) := by omega
   have hL : n < S.length := by omega
   have ex := HBy.out n hc hL
   have hi1 : (n : Int) + 1 ≤ 9223372036854775807 := by omega
   have hi2 : -9223372036854775808 ≤ (n : Int) + 1 := by omega
   obtain ⟨x, hx⟩ : ∃ x, x = S[n] := ⟨_, rfl⟩
   rw [← hx] at ex
   by_cases h10 : x.2 = 10
   ·have t1 : ((x.2.toNat : Int) != 10) = false := by rw [h10]; rfl
    have hEn : E = n := by have := hnE.out; rw [ln_end hL (by rw [← hx]; exact h10)] at this; omega
    have q1 : ((n : Int) == (s.size : Int)) = false := by simp; omega
    have HY2 : Hid (Y = (linesX nm.data.toList S (E + 1) (E + 1) (S.length - E)).map (fun r => (r.1, (S.drop n0).take (E + 1 - n0) ++ r.2))) := Lh (by rw [HY.out, if_pos (by omega), linesX_0])
    clear hx h10 HY hns hnE hi1 hi2
    subst hEn
    obtain ⟨B, hB⟩ : ∃ B, B = E + 1 := ⟨_, rfl⟩
    rw [← hB] at HY2
    have hB0 : (E : Int) + 1 = (B : Int) := by omega
    have hB1 : (B : Int) ≤ 9223372036854775807 := by omega
    have hB2 : -9223372036854775808 ≤ (B : Int) := by omega
    have HBE := Lh hB
    have HEsz := Lh hc
    clear hB
    go_wp2_with fail
    go_loopw [8, 9, 10, 11] (fun av _ _ _ wr => ∃ a : Nat, av = .int .i64 (a : Int) ∧ Hid (a ≤ s.size) ∧ Hid (B ≤ a) ∧ Hid (∃ f, S.length < a + f ∧ linesX nm.data.toList S B B (S.length - E) = linesX nm.data.toList S B a f) ∧ w = wr) (fun av _ _ _ _ => leftTo s.size av)
    case atStart => exact ⟨B, rfl, Lh (by have := HBE.out; have := HEsz.out; omega), Lh (Nat.le_refl _), Lh ⟨_, by have := HBE.out; omega, rfl⟩, rfl⟩
    case round =>
     obtain ⟨a, rfl, hasz, HEa, HF, rfl⟩ := hrel
     by_cases hca : a < s.size
     ·have hcai : (a : Int) < (s.size : Int) := by omega
      have haS : a < S.length := by omega
      obtain ⟨E2, hE2⟩ : ∃ E2, E2 = a + lnN (S.drop a) := ⟨_, rfl⟩
      have HE2 := Lh hE2
      have hE2l : E2 ≤ s.size := by have := lnN_le (S.drop a); rw [List.length_drop] at this; omega
      have haE2 : a ≤ E2 := by omega
      have haE2i : (a : Int) ≤ (E2 : Int) := by omega
      have hE2i : (E2 : Int) ≤ (s.size : Int) := by omega
      clear ex t1 hE2 hci
      go_wp2_with fail
      go_loopw [9] (fun ev wr => ∃ e : Nat, ev = .int .i64 (e : Int) ∧ Hid (a ≤ e) ∧ Hid (e ≤ s.size) ∧ Hid (e + lnN (S.drop e) = E2) ∧ w = wr) (fun ev _ => leftTo s.size ev)
      case atStart => exact ⟨a, rfl, Lh (Nat.le_refl _), hasz, Lh HE2.out.symm, rfl⟩
      case round =>
       obtain ⟨e, rfl, hae, hes, heE, rfl⟩ := hrel
       by_cases hce : e < s.size
       ·have hcei : (e : Int) < (s.size : Int) := by omega
        have hLe : e < S.length := by omega
        have ey := HBy.out e hce hLe
        have hj1 : (e : Int) + 1 ≤ 9223372036854775807 := by omega
        have hj2 : -9223372036854775808 ≤ (e : Int) + 1 := by omega
        obtain ⟨y, hy⟩ : ∃ y, y = S[e] := ⟨_, rfl⟩
        rw [← hy] at ey
        by_cases h10 : y.2 = 10
        ·have t2 : ((y.2.toNat : Int) != 10) = false := by rw [h10]; rfl
         have hEe : E2 = e := by have := heE.out; rw [ln_end hLe (by rw [← hy]; exact h10)] at this; omega
         clear hy h10 heE hae hes
         subst hEe
         have hEz : (E2 : Int) < (s.size : Int) := by omega
         obtain ⟨D, hD⟩ : ∃ D, D = E2 + 1 := ⟨_, rfl⟩
         have hD0 : (E2 : Int) + 1 = (D : Int) := by omega
         have hD1 : (D : Int) ≤ 9223372036854775807 := by omega
         have hD2 : -9223372036854775808 ≤ (D : Int) := by omega
         have HD := Lh hD
         clear hD hj1 hj2
         have hq : (s.extract a E2).data.toList = (byt S).extract a E2 := by rw [extractE, HS.out, List.extract_eq_take_drop]
         have Hq := Lh hq
         clear hq
         obtain ⟨f, hf, hZ⟩ := HF.out
         obtain ⟨f, rfl⟩ : ∃ f', f = f' + 1 := ⟨f - 1, by omega⟩
         have Hf := Lh hf
         clear hf
         by_cases hnm : (byt S).extract a E2 = nm.data.toList
         ·have hline : ((s.extract a E2).toList == nm.toList) = true := by rw [ByteArray.toList_eq, ByteArray.toList_eq, Hq.out, hnm]; simp
          rw [linesX_yes nm.data.toList B f haS HE2.out hnm] at hZ
          have HZ2 := Lh hZ
          clear hnm hZ HF
          have hd1 : (D : Int) ≤ (s.size : Int) := by have := HD.out; omega
          have hdN : D ≤ S.length := by have := HD.out; omega
          have hBs : (B : Int) ≤ (s.size : Int) := by have := HBE.out; have := HEsz.out; omega
          have hBS : B ≤ S.length := by have := HBE.out; have := HEsz.out; omega
          have hBa : (B : Int) ≤ (a : Int) := by have := HEa.out; omega
          obtain ⟨s1, hs1⟩ : ∃ s1, s1 = s.extract 0 B := ⟨_, rfl⟩
          obtain ⟨s2, hs2⟩ : ∃ s2, s2 = s.extract D s.size := ⟨_, rfl⟩
          have hz1 : s1.size ≤ s.size := by rw [hs1]; simp [ByteArray.size_extract]; omega
          have hz2 : s2.size ≤ s.size := by rw [hs2]; simp [ByteArray.size_extract]
          have hz3 : s1.size + s2.size ≤ 140737488351232 := by omega
          have hz4 : (s1.size : Int) + (s2.size : Int) ≤ 9223372036854775807 := by omega
          have Hs1 := Lh hs1
          have Hs2 := Lh hs2
          have HSrc : Hid ((s.extract 0 B ++ s.extract D S.length).data.toList = byt (S.take B ++ S.drop D)) := Lh (by rw [← Hsz.out]; exact cut_src HS.out B D)
          have HYs : Hid (Y = some ((byt S).extract B a, (S.drop n0).take (B - n0) ++ S.drop D)) := Lh (by rw [HY2.out, HZ2.out, HD.out]; rfl)
          have HBody : Hid (s.extract B a = ba ((byt S).extract B a)) := Lh (by rw [← HS.out]; exact barr_of' s B a)
          have HJ : Hid (S.take n0 ++ ((S.drop n0).take (B - n0) ++ S.drop D) = S.take B ++ S.drop D) := Lh (cut_join (by have := hn0n.out; have := HBE.out; omega) _)
          obtain ⟨gp, capp, hpv, hgp, hgps, hcapp, hpc⟩ := own_cell H.out.p (by omega)
          subst hpv
          have Hgps := Lh hgps
          have Hpc := Lh hpc
          have hcap2 : S.length ≤ capp := hcapp
          clear hgp hgps hpc hcapp
          go_wp2_with fail
          go_big_region
          generalize hs' : s.extract 0 B ++ s.extract D S.length = s' at *
          generalize hW : (w.setCell ⟨P, 0, none⟩ (.string s')).drew = W
          have HFin := Lh (fun w2 (v2 : Value) => cut_end (w2 := w2) (v2 := v2) H.out hW HSrc.out hBS (by have := HEa.out; omega) hdN)
          have SW := Lh (show RSc W P s' _ at_ tv bv tm ov en (sgB rt tms) by rw [← hW]; exact (H.out.sc.setS s').gr (Gr.refl _).drew)
          have PW := Lh (show ∀ j u, (S.map fun x => Value.int .i64 (x.1 : Int))[j]? = some u → W.cell? ⟨gp, j, none⟩ = some u by intro j u hj; rw [← hW]; exact cut_cell H.out Hgps.out (Hpc.out j u hj))
          have hWz : Hid (gp < W.heap.size) := Lh (by rw [← hW]; simpa [World.setCell] using Hgps.out)
          clear hW c0 c1 c2 c3 c4 c5 c6 c7 c8 cf
          obtain ⟨c0, c1, c2, c3, c4, c5, c6, c7, c8, cf⟩ := SW.out.cells
          obtain ⟨ii, hii, hiz, his, hib⟩ := info_parts infoInt
          have hBc : (B : Int) ≤ (capp : Int) := by omega
          have hdS : (D : Int) ≤ (S.length : Int) := by omega
          have hdSc : (S.length : Int) ≤ (capp : Int) := by omega
          by_cases hdc : D < capp
          ·have hdci : (D : Int) < (capp : Int) := by omega
           have hcd : ¬ capp = D := by omega
           go_wp2_with fail
           go_region_law (first | (refine step_of rfl (wp_append_at (.const (.slice none 0 0)) (.tmp 114) 48 rfl W.heap.size 3 ii (.int .i64 0) 1 8 Tryz.underlying48 hii hiz his hib rfl (by decide) (.slice none 0 0) 0 [] rfl (World.ownsRow_nil _ _ _ _) ⟨gp, 0, none⟩ B capp (placesL (S.take B)) rfl (by simp [placesL]; omega) (fun j u hj => src_cell (a := 0) (by rw [Nat.zero_add]; exact PW.out j u (placesL_take hj))) placesL_one (by unfold maxLen; omega) (by omega) (Nat.le_refl _) fun v1 w1 h1 h2 h3 => ?_); have h4 := own_0 h1; have O1 := Lh h4; have K1 := Lh h2; obtain ⟨ao, cap1, rfl⟩ := ownsRow_shape h4; obtain ⟨_, d1, _, _, _, _, _, _, _, _⟩ := ((SW.out.gr ((Gr.refl W).drew)).grown h2 (by simp [Value.ownBlock])).cells; clear h1 h2 h3 h4) | (refine step_of rfl (wp_append_at (.tmp 115) (.tmp 121) 48 rfl W.heap.size 3 ii (.int .i64 0) 1 8 Tryz.underlying48 hii hiz his hib rfl (by decide) (.slice ao B cap1) _ _ rfl O1.out ⟨gp, D, none⟩ (S.length - D) (capp - D) (placesL (S.drop D)) rfl (by simp [placesL]) (fun j u hj => src_cell (cut_keep K1.out hWz.out (PW.out (D + j) u (placesL_drop hj)))) placesL_one (by unfold maxLen; omega) (by omega) (by have := K1.out.size; exact this) fun v2 w2 h1 h2 h3 => ?_); have O2 := Lh h1; have G2 := Lh (cut_two K1.out O1.out h2); obtain ⟨ao2, cap2, rfl⟩ := ownsRow_shape h1; obtain ⟨_, e1, _, _, _, _, _, _, _, ef⟩ := (SW.out.gr G2.out).cells; clear h1 h2 h3))
           all_goals
           all_goals
            go_wp2_with fail
            go_ret2
            rw [HYs.out]
            obtain ⟨z1, z2⟩ := HFin.out _ _ G2.out O2.out
            exact ⟨by rw [← HBody.out]; rfl, s', _, by rw [HJ.out]; exact z1, z2⟩
          ·have hcd : (capp = D) = True := by simp; omega
           have hdl : S.length ≤ D := by omega
           clear hdc
           go_wp2_with fail
           go_region_law (first | (refine step_of rfl (wp_append_at (.const (.slice none 0 0)) (.tmp 114) 48 rfl W.heap.size 3 ii (.int .i64 0) 1 8 Tryz.underlying48 hii hiz his hib rfl (by decide) (.slice none 0 0) 0 [] rfl (World.ownsRow_nil _ _ _ _) ⟨gp, 0, none⟩ B capp (placesL (S.take B)) rfl (by simp [placesL]; omega) (fun j u hj => src_cell (a := 0) (by rw [Nat.zero_add]; exact PW.out j u (placesL_take hj))) placesL_one (by unfold maxLen; omega) (by omega) (Nat.le_refl _) fun v1 w1 h1 h2 h3 => ?_); have h4 := own_0 h1; have O1 := Lh h4; have K1 := Lh h2; obtain ⟨ao, cap1, rfl⟩ := ownsRow_shape h4; obtain ⟨_, d1, _, _, _, _, _, _, _, _⟩ := ((SW.out.gr ((Gr.refl W).drew)).grown h2 (by simp [Value.ownBlock])).cells; clear h1 h2 h3 h4) | (refine step_of rfl (wp_append_at (.tmp 115) (.tmp 121) 48 rfl W.heap.size 3 ii (.int .i64 0) 1 8 Tryz.underlying48 hii hiz his hib rfl (by decide) (.slice ao B cap1) _ _ rfl O1.out ⟨gp, 0, none⟩ 0 _ [] rfl rfl (fun j u hj => absurd hj (by simp)) (by intro u hu; simp at hu) (by unfold maxLen; omega) (by omega) (by have := K1.out.size; exact this) fun v2 w2 h1 h2 h3 => ?_); have O2 := Lh (cut_nil hdl h1); have G2 := Lh (cut_two K1.out O1.out h2); obtain ⟨ao2, cap2, rfl⟩ := ownsRow_shape h1; obtain ⟨_, e1, _, _, _, _, _, _, _, ef⟩ := (SW.out.gr G2.out).cells; clear h1 h2 h3))
           all_goals
            go_wp2_with fail
            go_ret2
            rw [HYs.out]
            obtain ⟨z1, z2⟩ := HFin.out _ _ G2.out O2.out
            exact ⟨by rw [← HBody.out]; rfl, s', _, by rw [HJ.out]; exact z1, z2⟩
         ·have hline : ((s.extract a E2).toList == nm.toList) = false := by rw [ByteArray.toList_eq, ByteArray.toList_eq, Hq.out]; simpa using hnm
          rw [linesX_no nm.data.toList B f HEa.out haS HE2.out hnm] at hZ
          have HZ2 := Lh hZ
          clear hnm hZ HF
          go_wp2_with fail
          go_roundw
          case rel => exact ⟨D, rfl, Lh (by have := HD.out; omega), Lh (by have := HD.out; have := HEa.out; omega), Lh ⟨f, by have := HD.out; have := Hf.out; omega, by rw [HZ2.out, HD.out]⟩, (by first | rfl | trivial)⟩
          case measure => have := HD.out; simp only [leftTo]; omega
        ·have t2 : ((y.2.toNat : Int) != 10) = true := by have := u8_bne y.2 10; rw [show ((10 : UInt8).toNat : Int) = 10 from rfl] at this; rw [this]; simpa using h10
         have hEe : Hid ((e + 1) + lnN (S.drop (e + 1)) = E2) := Lh (by rw [← ln_on hLe (by rw [← hy]; exact h10)]; exact heE.out)
         clear hy h10
         go_wp2_with fail
         go_roundw
         case rel => exact ⟨e + 1, rfl, Lh (by have := hae.out; omega), Lh hce, hEe, (by first | rfl | trivial)⟩
         case measure => simp only [leftTo]; omega
       ·have hcei : ¬ (e : Int) < (s.size : Int) := by omega
        have hcei2 : decide ((e : Int) < (s.size : Int)) = false := decide_eq_false hcei
        have hcei3 : decide (e < s.size) = false := decide_eq_false hce
        have hEe : E2 = e := by have := heE.out; rw [ln_out (by omega)] at this; omega
        have hes2 : e = s.size := by have := hes.out; omega
        clear heE hae hes
        subst hEe
        have Hes2 := Lh hes2
        clear hes2
        have hEz : ¬ (E2 : Int) < (s.size : Int) := hcei
        have hEz4 : decide ((E2 : Int) < (s.size : Int)) = false := decide_eq_false hEz
        have hEz5 : decide (E2 < s.size) = false := decide_eq_false (by omega)
        have hEz6 : decide ((E2 : Int) < (S.length : Int)) = false := decide_eq_false (by omega)
        have hEz7 : decide (E2 < S.length) = false := decide_eq_false (by omega)
        have hEz8 : ¬ (E2 : Int) < (S.length : Int) := by omega
        have hEz9 : ¬ E2 < S.length := by omega
        have hq : (s.extract a E2).data.toList = (byt S).extract a E2 := by rw [extractE, HS.out, List.extract_eq_take_drop]
        have Hq := Lh hq
        clear hq
        obtain ⟨f, hf, hZ⟩ := HF.out
        obtain ⟨f, rfl⟩ : ∃ f', f = f' + 1 := ⟨f - 1, by omega⟩
        have Hf := Lh hf
        clear hf
        by_cases hnm : (byt S).extract a E2 = nm.data.toList
        ·have hline : ((s.extract a E2).toList == nm.toList) = true := by rw [ByteArray.toList_eq, ByteArray.toList_eq, Hq.out, hnm]; simp
         rw [linesX_yes nm.data.toList B f haS HE2.out hnm] at hZ
         have HZ2 := Lh hZ
         clear hnm hZ HF
         have hd1 : (E2 : Int) ≤ (s.size : Int) := hE2i
         have hdN : E2 ≤ S.length := by omega
         have hBs : (B : Int) ≤ (s.size : Int) := by have := HBE.out; have := HEsz.out; omega
         have hBS : B ≤ S.length := by have := HBE.out; have := HEsz.out; omega
         have hBa : (B : Int) ≤ (a : Int) := by have := HEa.out; omega
         obtain ⟨s1, hs1⟩ : ∃ s1, s1 = s.extract 0 B := ⟨_, rfl⟩
         obtain ⟨s2, hs2⟩ : ∃ s2, s2 = s.extract E2 s.size := ⟨_, rfl⟩
         have hz1 : s1.size ≤ s.size := by rw [hs1]; simp [ByteArray.size_extract]; omega
         have hz2 : s2.size ≤ s.size := by rw [hs2]; simp [ByteArray.size_extract]
         have hz3 : s1.size + s2.size ≤ 140737488351232 := by omega
         have hz4 : (s1.size : Int) + (s2.size : Int) ≤ 9223372036854775807 := by omega
         have Hs1 := Lh hs1
         have Hs2 := Lh hs2
         have HSrc : Hid ((s.extract 0 B ++ s.extract E2 S.length).data.toList = byt (S.take B ++ S.drop E2)) := Lh (by rw [← Hsz.out]; exact cut_src HS.out B E2)
         have HYs : Hid (Y = some ((byt S).extract B a, (S.drop n0).take (B - n0) ++ S.drop E2)) := Lh (by rw [HY2.out, HZ2.out, show S.drop (E2 + 1) = S.drop E2 by rw [List.drop_eq_nil_of_le (by omega), List.drop_eq_nil_of_le (by omega)]]; rfl)
         have HBody : Hid (s.extract B a = ba ((byt S).extract B a)) := Lh (by rw [← HS.out]; exact barr_of' s B a)
         have HJ : Hid (S.take n0 ++ ((S.drop n0).take (B - n0) ++ S.drop E2) = S.take B ++ S.drop E2) := Lh (cut_join (by have := hn0n.out; have := HBE.out; omega) _)
         obtain ⟨gp, capp, hpv, hgp, hgps, hcapp, hpc⟩ := own_cell H.out.p (by omega)
         subst hpv
         have Hgps := Lh hgps
         have Hpc := Lh hpc
         have hcap2 : S.length ≤ capp := hcapp
         clear hgp hgps hpc hcapp
         go_wp2_with fail
         go_big_region
         generalize hs' : s.extract 0 B ++ s.extract E2 S.length = s' at *
         generalize hW : (w.setCell ⟨P, 0, none⟩ (.string s')).drew = W
         have HFin := Lh (fun w2 (v2 : Value) => cut_end (w2 := w2) (v2 := v2) H.out hW HSrc.out hBS (by have := HEa.out; omega) hdN)
         have SW := Lh (show RSc W P s' _ at_ tv bv tm ov en (sgB rt tms) by rw [← hW]; exact (H.out.sc.setS s').gr (Gr.refl _).drew)
         have PW := Lh (show ∀ j u, (S.map fun x => Value.int .i64 (x.1 : Int))[j]? = some u → W.cell? ⟨gp, j, none⟩ = some u by intro j u hj; rw [← hW]; exact cut_cell H.out Hgps.out (Hpc.out j u hj))
         have hWz : Hid (gp < W.heap.size) := Lh (by rw [← hW]; simpa [World.setCell] using Hgps.out)
         clear hW c0 c1 c2 c3 c4 c5 c6 c7 c8 cf
         obtain ⟨c0, c1, c2, c3, c4, c5, c6, c7, c8, cf⟩ := SW.out.cells
         obtain ⟨ii, hii, hiz, his, hib⟩ := info_parts infoInt
         have hBc : (B : Int) ≤ (capp : Int) := by omega
         have hdS : (E2 : Int) ≤ (S.length : Int) := by omega
         have hdSc : (S.length : Int) ≤ (capp : Int) := by omega
         by_cases hdc : E2 < capp
         ·have hdci : (E2 : Int) < (capp : Int) := by omega
          have hcd : ¬ capp = E2 := by omega
          go_wp2_with fail
          go_region_law (first | (refine step_of rfl (wp_append_at (.const (.slice none 0 0)) (.tmp 114) 48 rfl W.heap.size 3 ii (.int .i64 0) 1 8 Tryz.underlying48 hii hiz his hib rfl (by decide) (.slice none 0 0) 0 [] rfl (World.ownsRow_nil _ _ _ _) ⟨gp, 0, none⟩ B capp (placesL (S.take B)) rfl (by simp [placesL]; omega) (fun j u hj => src_cell (a := 0) (by rw [Nat.zero_add]; exact PW.out j u (placesL_take hj))) placesL_one (by unfold maxLen; omega) (by omega) (Nat.le_refl _) fun v1 w1 h1 h2 h3 => ?_); have h4 := own_0 h1; have O1 := Lh h4; have K1 := Lh h2; obtain ⟨ao, cap1, rfl⟩ := ownsRow_shape h4; obtain ⟨_, d1, _, _, _, _, _, _, _, _⟩ := ((SW.out.gr ((Gr.refl W).drew)).grown h2 (by simp [Value.ownBlock])).cells; clear h1 h2 h3 h4) | (refine step_of rfl (wp_append_at (.tmp 115) (.tmp 121) 48 rfl W.heap.size 3 ii (.int .i64 0) 1 8 Tryz.underlying48 hii hiz his hib rfl (by decide) (.slice ao B cap1) _ _ rfl O1.out ⟨gp, E2, none⟩ (S.length - E2) (capp - E2) (placesL (S.drop E2)) rfl (by simp [placesL]) (fun j u hj => src_cell (cut_keep K1.out hWz.out (PW.out (E2 + j) u (placesL_drop hj)))) placesL_one (by unfold maxLen; omega) (by omega) (by have := K1.out.size; exact this) fun v2 w2 h1 h2 h3 => ?_); have O2 := Lh h1; have G2 := Lh (cut_two K1.out O1.out h2); obtain ⟨ao2, cap2, rfl⟩ := ownsRow_shape h1; obtain ⟨_, e1, _, _, _, _, _, _, _, ef⟩ := (SW.out.gr G2.out).cells; clear h1 h2 h3))
          all_goals
          all_goals
           go_wp2_with fail
           go_ret2
           rw [HYs.out]
           obtain ⟨z1, z2⟩ := HFin.out _ _ G2.out O2.out
           exact ⟨by rw [← HBody.out]; rfl, s', _, by rw [HJ.out]; exact z1, z2⟩
         ·have hcd : (capp = E2) = True := by simp; omega
          have hdl : S.length ≤ E2 := by omega
          clear hdc
          go_wp2_with fail
          go_region_law (first | (refine step_of rfl (wp_append_at (.const (.slice none 0 0)) (.tmp 114) 48 rfl W.heap.size 3 ii (.int .i64 0) 1 8 Tryz.underlying48 hii hiz his hib rfl (by decide) (.slice none 0 0) 0 [] rfl (World.ownsRow_nil _ _ _ _) ⟨gp, 0, none⟩ B capp (placesL (S.take B)) rfl (by simp [placesL]; omega) (fun j u hj => src_cell (a := 0) (by rw [Nat.zero_add]; exact PW.out j u (placesL_take hj))) placesL_one (by unfold maxLen; omega) (by omega) (Nat.le_refl _) fun v1 w1 h1 h2 h3 => ?_); have h4 := own_0 h1; have O1 := Lh h4; have K1 := Lh h2; obtain ⟨ao, cap1, rfl⟩ := ownsRow_shape h4; obtain ⟨_, d1, _, _, _, _, _, _, _, _⟩ := ((SW.out.gr ((Gr.refl W).drew)).grown h2 (by simp [Value.ownBlock])).cells; clear h1 h2 h3 h4) | (refine step_of rfl (wp_append_at (.tmp 115) (.tmp 121) 48 rfl W.heap.size 3 ii (.int .i64 0) 1 8 Tryz.underlying48 hii hiz his hib rfl (by decide) (.slice ao B cap1) _ _ rfl O1.out ⟨gp, 0, none⟩ 0 _ [] rfl rfl (fun j u hj => absurd hj (by simp)) (by intro u hu; simp at hu) (by unfold maxLen; omega) (by omega) (by have := K1.out.size; exact this) fun v2 w2 h1 h2 h3 => ?_); have O2 := Lh (cut_nil hdl h1); have G2 := Lh (cut_two K1.out O1.out h2); obtain ⟨ao2, cap2, rfl⟩ := ownsRow_shape h1; obtain ⟨_, e1, _, _, _, _, _, _, _, ef⟩ := (SW.out.gr G2.out).cells; clear h1 h2 h3))
          all_goals
           go_wp2_with fail
           go_ret2
           rw [HYs.out]
           obtain ⟨z1, z2⟩ := HFin.out _ _ G2.out O2.out
           exact ⟨by rw [← HBody.out]; rfl, s', _, by rw [HJ.out]; exact z1, z2⟩
        ·have hline : ((s.extract a E2).toList == nm.toList) = false := by rw [ByteArray.toList_eq, ByteArray.toList_eq, Hq.out]; simpa using hnm
         rw [linesX_no nm.data.toList B f HEa.out haS HE2.out hnm] at hZ
         have HZ2 := Lh hZ
         clear hnm hZ HF
         go_wp2_with fail
         go_roundw
         case rel => exact ⟨E2, rfl, Lh (by have := Hes2.out; omega), Lh (by have := HEa.out; omega), Lh ⟨f, by have := Hf.out; have := Hes2.out; omega, by rw [HZ2.out, linesX_end _ _ _ (by have := Hes2.out; omega), linesX_end _ _ _ (by have := Hes2.out; omega)]⟩, (by first | rfl | trivial)⟩
         case measure => have := Hes2.out; simp only [leftTo]; omega
     ·have hcai : ¬ (a : Int) < (s.size : Int) := by omega
      have hcai2 : decide ((a : Int) < (s.size : Int)) = false := decide_eq_false hcai
      have hcai3 : decide (a < s.size) = false := decide_eq_false hca
      have hYn : Hid (Y = none) := Lh (by
       obtain ⟨f, hf, hZ⟩ := HF.out
       rw [HY2.out, hZ, linesX_end _ _ _ (by omega)]; rfl)
      clear hca
      go_wp2_with fail
      go_ret2
      rw [hYn.out]
      exact ⟨rfl, Gr.refl w⟩
   ·have t1 : ((x.2.toNat : Int) != 10) = true := by have := u8_bne x.2 10; rw [show ((10 : UInt8).toNat : Int) = 10 from rfl] at this; rw [this]; simpa using h10
    have hEn : Hid ((n + 1) + lnN (S.drop (n + 1)) = E) := Lh (by rw [← ln_on hL (by rw [← hx]; exact h10)]; exact hnE.out)
    clear hx h10
    go_wp2_with fail
    go_roundw
    case rel => exact ⟨n + 1, rfl, Lh hc, Lh (by have := hn0n.out; omega), hEn, (by first | rfl | trivial)⟩
    case measure => simp only [leftTo]; omega
  ·have hci : decide ((n : Int) < (s.size : Int)) = false := by simp; omega
   have hci2 : ¬ (n : Int) < (s.size : Int) := by omega
   have hci3 : decide (n < s.size) = false := decide_eq_false hc
   have hne : n = s.size := by have := hns.out; omega
   have hEn : E = n := by have := hnE.out; rw [ln_out (by omega)] at this; omega
   have hYn : Hid (Y = none) := Lh (by rw [HY.out, if_neg (by omega)])
   have q1 : ((n : Int) == (s.size : Int)) = true := by simp; omega
   clear hns hnE hEn hne
   go_wp2_with fail
   go_ret2
   rw [hYn.out]
   exact ⟨rfl, Gr.refl w⟩
end Go.Proofs.YthmopindibdhnaaGreatDoor.G
