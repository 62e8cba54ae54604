import Derived.Test.YthmopindibdhnaaGreatDoorQ00
import Derived.Test.YthmopindibdhnaaGreatDoorQ23
namespace Go.Proofs.YthmopindibdhnaaGreatDoor.G
open Go.RowKit Go.Shelf Go.Maps
variable {w w' : World} {P base : Nat} {s : ByteArray} {pv : Value} {at_ : Nat} {tv bv : Value} {tm : Bool} {ov : Value} {en : Nat} {sg : Bool} {G : Prop} {S : Src} {rt : List RTok} {tms : List Bool} {ops : List Nat} {ks : List Tok}
def sgnT (R : Src) (n : Nat) (rt : List RTok) (tms : List Bool) (near : Bool) (ops : List Nat) : RTok × List Nat := braceS (asIs 3 n R).1 rt tms near ops
def SignP (G : Prop) (P base : Nat) (tm : Bool) (rt : List RTok) (tms : List Bool) (ks : List Tok) (S : Src) (a en : Nat) (ops : List Nat) (w : World) (n : Nat) (e : Ending) (w' : World) : Prop :=
 match n with
 | 0 => e = .returned (.bool false) ∧ Gr w w'
 | n + 1 => e = .returned (.bool true) ∧ PutP G P base tm rt tms ks (sgnT (S.drop a) (n + 1) rt tms (decide (en = a)) ops).1 S (a + (n + 1)) (sgnT (S.drop a) (n + 1) rt tms (decide (en = a)) ops).2 w w'
theorem asIs_lkO {n : Nat} (o : Nat) (hat : at_ < S.length) {tx : ByteArray} (htx : tx.data.toList = (byt (S.drop at_)).take n) : Lk G ⟨3, S[at_].1, tx, ⟨#[]⟩, ⟨#[]⟩, (o : Int)⟩ { (asIs 3 n (S.drop at_)).1 with opn := o } := by
 have h := asIs_lk (G := G) (k := 3) hat htx
 refine ⟨rfl, rfl, fun _ => htx, fun hg => ?_⟩
 have := h.own hg
 unfold rend at this ⊢
 injection this with e1 e2 e3 e4 e5 e6
 show (⟨3, (S[at_].1 : Int), tx, ⟨#[]⟩, ⟨#[]⟩, (o : Int)⟩ : Tok) = _
 rw [Tok.mk.injEq]
 exact ⟨rfl, e2, e3, e4, e5, rfl⟩
theorem put_sign {W : World} (h : RSt G W P base S at_ tm en rt tms ops ks s pv tv bv ov) (hat : at_ < S.length) (hks : ks.length ≤ 4000) {n : Nat} {tx : ByteArray} (htx : tx.data.toList = (byt (S.drop at_)).take n) (o : Nat) :
  Calls Tryz.prog 55 #[.pointer (some ⟨P, 0, none⟩), .agg #[.int .i64 3, .int .i64 0, .string tx, .string ⟨#[]⟩, .string ⟨#[]⟩, .int .i64 (o : Int)], .int .i64 ((at_ + n : Nat) : Int)] W fun e w' => e = .returned (.tuple #[]) ∧ PutP G P base tm rt tms ks { (asIs 3 n (S.drop at_)).1 with opn := o } S (at_ + n) ops W w' := by
 refine (put_g h hat hks (p0 := 0) (at_ + n) _ (asIs_lkO o hat htx) (by omega) ?_).mono ?_
 ·rw [htx]; rfl
 ·rintro e w' ⟨rfl, tv', bv', kk, h1, h2⟩
  exact ⟨rfl, s, pv, tv', bv', ov, kk, h1, h2⟩
theorem sgnT_no {R : Src} {n : Nat} {rt : List RTok} {tms : List Bool} {near : Bool} {ops : List Nat} (h1 : (byt R).take n ≠ [123]) (h2 : (byt R).take n ≠ [125]) : sgnT R n rt tms near ops = ({ (asIs 3 n R).1 with opn := 0 }, ops) := by
 unfold sgnT braceS
 have e1 : isSg (asIs 3 n R).1 [123] = false := by unfold isSg asIs; simpa using h1
 have e2 : isSg (asIs 3 n R).1 [125] = false := by unfold isSg asIs; simpa using h2
 rw [e1, e2]; rfl
theorem sgnT_open {R : Src} {n : Nat} {rt : List RTok} {tms : List Bool} {near : Bool} {ops : List Nat} (h1 : (byt R).take n = [123]) : sgnT R n rt tms near ops = ({ (asIs 3 n R).1 with opn := openS rt tms near }, openS rt tms near :: ops) := by
 unfold sgnT braceS
 have e1 : isSg (asIs 3 n R).1 [123] = true := by unfold isSg asIs; simpa using h1
 rw [e1]; rfl
theorem sgnT_shut {R : Src} {n : Nat} {rt : List RTok} {tms : List Bool} {near : Bool} {ops : List Nat} (h2 : (byt R).take n = [125]) : sgnT R n rt tms near ops = ({ (asIs 3 n R).1 with opn := ops.headD 1 }, ops.tail) := by
 unfold sgnT braceS
 have e1 : isSg (asIs 3 n R).1 [123] = false := by unfold isSg asIs; simp [h2]
 have e2 : isSg (asIs 3 n R).1 [125] = true := by unfold isSg asIs; simpa using h2
 rw [e1, e2]; rfl
theorem putP_fr {W : World} {t : RTok} {b : Nat} (g : Fr P base w W) (h : PutP G P base tm rt tms ks t S b ops W w') : PutP G P base tm rt tms ks t S b ops w w' := by
 obtain ⟨s1, p1, t1, b1, o1, kk, h1, h2⟩ := h
 exact ⟨s1, p1, t1, b1, o1, kk, h1, g.trans h2⟩
theorem sign_fr {X : World} {gb j : Nat} {u v : Value} (g : Gr w X) (hb : base ≤ w.heap.size) (hg : w.heap.size ≤ gb) : Fr P base w ((X.setCell ⟨gb, 5, none⟩ u).setCell ⟨P, j, none⟩ v) := by
 have h1 : Fr P base w X := Fr.of_but (But.of_gr g) hb
 have h2 : base ≤ X.heap.size := Nat.le_trans hb g.size
 have h3 : Fr P base X (X.setCell ⟨gb, 5, none⟩ u) := ⟨rfl, rfl, rfl, by simp [World.setCell], fun k hk _ => by
  have : gb ≠ k := by omega
  simp [World.setCell, Array.getElem?_modify, this]⟩
 exact (h1.trans h3).trans (Fr.of_but (But.set (P := P) j v) (by simpa [World.setCell] using h2))
theorem sign_fr1 {X : World} {gb : Nat} {u : Value} (g : Gr w X) (hb : base ≤ w.heap.size) (hg : w.heap.size ≤ gb) : Fr P base w (X.setCell ⟨gb, 5, none⟩ u) :=
 (Fr.of_but (But.of_gr g) hb).trans ⟨rfl, rfl, rfl, by simp [World.setCell], fun k hk _ => by
  have : gb ≠ k := by omega
  simp [World.setCell, Array.getElem?_modify, this]⟩
theorem tok_grown {W w' : World} {gb : Nat} {gc : Array Value} {l : List Nat} (K : W.heap[gb]? = some (.cells gc 42 (0, 0))) (h : OwnO W base ov l) (g : W.grownBy w' ov.ownBlock) : w'.heap[gb]? = some (.cells gc 42 (0, 0)) := by
 rw [g.block gb (Ag K).1 (fun e => ?_)]
 ·exact K
 ·obtain ⟨_, cur, hc⟩ := h.ge e.symm
  rw [K] at hc
  injection hc with hc
  injection hc with _ hc _
  exact absurd hc (by decide)
theorem ov_apart (h : RSt G w P base S at_ tm en rt tms ops ks s pv tv bv ov) : ov.ownBlock ≠ some P := fun e => by have := (h.o.ge e).1; have := h.pb; omega
theorem signsA_at {i : Nat} (hi : i < 48) : ∃ g, signsA[i]? = some g ∧ signsL.drop i = g.data.toList :: signsL.drop (i + 1) ∧ g.size ≤ 3 := by
 have h1 : i < signsL.length := hi
 have h2 : ∀ g ∈ signsL, g.length ≤ 3 := by decide
 refine ⟨ba signsL[i], by unfold signsA; rw [List.getElem?_map, List.getElem?_eq_getElem h1]; rfl, by rw [ba_data]; exact List.drop_eq_getElem_cons h1, ?_⟩
 rw [← sizeL, ba_data]
 exact h2 _ (List.getElem_mem h1)
set_option maxRecDepth 100000 in
set_option maxHeartbeats 4000000 in
theorem sign_r (h : RSt G w P base S at_ tm en rt tms ops ks s pv tv bv ov) (hat : at_ < S.length) (hks : ks.length ≤ 4000) (hop : ops.length ≤ 4000) :
  Calls Tryz.prog 57 #[.pointer (some ⟨P, 0, none⟩)] w (SignP G P base tm rt tms ks S at_ en ops w (signN (byt (S.drop at_)))) := by
 have hsz := h.size
 have hSl := h.le
 obtain ⟨r, hr⟩ : ∃ r, r = s.extract at_ s.size := ⟨_, rfl⟩
 have hrl : r.data.toList = byt (S.drop at_) := by rw [hr, dropE, h.eq, byt_drop]
 have HR1 := Lh (rest_r h.sc (by omega))
 rw [← hr] at HR1
 have HS := Lh signs_r
 have H := Lh h
 have HE : Hid (∀ k : Nat, (r.extract 0 k).data.toList = r.data.toList.take k) := Lh (fun k => by rw [extractE]; simp)
 have hrs : r.size ≤ 4000 := by rw [← sizeL, hrl, byt_len, List.length_drop]; omega
 have Hat := Lh hat
 have Hks := Lh hks
 have Hop := Lh hop
 have Hrl := Lh hrl
 have HSl := Lh hSl
 rw [← hrl]
 obtain ⟨N, hN⟩ : ∃ N, N = signN r.data.toList := ⟨_, rfl⟩
 rw [← hN]
 have HN := Lh hN
 clear h hr hat hks hop hrl hSl hsz hN
 go_enter Tryz.func57, Tryz.ntmps57
 go_wp2_with fail
 refine (HR1.out).mono ?_
 rintro e w1 ⟨rfl, g1⟩
 have G1 := Lh g1
 clear g1 HR1
 go_wp2_with fail
 refine (HS.out _).mono ?_
 rintro e w2 ⟨rfl, hT, g2⟩
 have HT := Lh hT
 have G2 := Lh (G1.out.trans g2)
 have hA : Hid (w1.heap.size < w2.heap.size) := Lh (by
  have := hT 0 _ (show signsA[0]? = some (ba [40]) from rfl)
  exact cell_lt this)
 clear g2 hT HS G1
 generalize w1.heap.size = A at *
 go_wp2_with fail
 go_loopw [4, 6, 7] (fun bb iv _ wr => ∃ i b : Nat, bb = .int .i64 (b : Int) ∧ iv = .int .i64 (i : Int) ∧ Hid (i ≤ 48) ∧ Hid (b ≤ r.size) ∧ Hid (bestN r.data.toList signsL 0 = bestN r.data.toList (signsL.drop i) b) ∧ Hid (Gr w2 wr)) (fun _ iv _ _ => leftTo 48 iv)
 case atStart => exact ⟨0, 0, rfl, rfl, Lh (by omega), Lh (by omega), Lh rfl, Lh (Gr.refl _)⟩
 case round =>
  obtain ⟨i, b, rfl, rfl, hi, hb, hB, hG⟩ := hrel
  by_cases hc : i < 48
  ·have hci : (i : Int) < 48 := by omega
   obtain ⟨g, hg, hd, hg3⟩ := signsA_at hc
   have c0 := (HT.out.gr hG.out hA.out) i g hg
   have hi1 : (i : Int) + 1 ≤ 9223372036854775807 := by omega
   have hi2 : -9223372036854775808 ≤ (i : Int) + 1 := by omega
   have HB2 : Hid (bestN r.data.toList signsL 0 = bestN r.data.toList (signsL.drop (i + 1)) (if b < g.size ∧ r.data.toList.take g.size = g.data.toList then g.size else b)) := Lh (by rw [hB.out, hd, bestN, sizeL])
   have hgs : (g.size : Int) ≤ 3 := by omega
   have Hc := Lh hc
   clear hB hg hd hc
   by_cases h1 : b < g.size
   ·have h1i : (g.size : Int) > (b : Int) := by omega
    by_cases h2 : g.size ≤ r.size
    ·have h2i : (g.size : Int) ≤ (r.size : Int) := by omega
     by_cases h3 : r.data.toList.take g.size = g.data.toList
     ·have h3b : ((r.extract 0 g.size).toList == g.toList) = true := by rw [ByteArray.toList_eq, ByteArray.toList_eq, HE.out, h3]; simp
      rw [if_pos ⟨h1, h3⟩] at HB2
      clear h3
      go_wp2_with fail
      go_quiet (fail)
      go_wp2_with fail
      go_roundw
      case rel => exact ⟨i + 1, g.size, rfl, rfl, Lh Hc.out, Lh h2, HB2, Lh (hG.out.drewN _)⟩
      case measure => have := Hc.out; simp only [leftTo]; omega
     ·have h3b : ((r.extract 0 g.size).toList == g.toList) = false := by rw [ByteArray.toList_eq, ByteArray.toList_eq, HE.out]; simpa using h3
      rw [if_neg (fun e => h3 e.2)] at HB2
      clear h3
      go_wp2_with fail
      go_quiet (fail)
      go_wp2_with fail
      go_roundw
      case rel => exact ⟨i + 1, b, rfl, rfl, Lh Hc.out, hb, HB2, Lh (hG.out.drewN _)⟩
      case measure => have := Hc.out; simp only [leftTo]; omega
    ·have h2i : ¬ (g.size : Int) ≤ (r.size : Int) := by omega
     have h2j : decide ((g.size : Int) ≤ (r.size : Int)) = false := decide_eq_false h2i
     have h2k : decide (g.size ≤ r.size) = false := decide_eq_false h2
     rw [if_neg (fun e => by
      have := congrArg List.length e.2
      rw [List.length_take, sizeL, sizeL] at this
      omega)] at HB2
     go_wp2_with fail
     go_quiet (fail)
     go_wp2_with fail
     go_roundw
     case rel => exact ⟨i + 1, b, rfl, rfl, Lh Hc.out, hb, HB2, Lh (hG.out.drewN _)⟩
     case measure => have := Hc.out; simp only [leftTo]; omega
   ·have h1i : ¬ (g.size : Int) > (b : Int) := by omega
    have h1j : decide ((b : Int) < (g.size : Int)) = false := decide_eq_false (by omega)
    have h1k : decide (b < g.size) = false := decide_eq_false h1
    rw [if_neg (fun e => h1 e.1)] at HB2
    go_wp2_with fail
    go_quiet (fail)
    go_wp2_with fail
    go_roundw
    case rel => exact ⟨i + 1, b, rfl, rfl, Lh Hc.out, hb, HB2, Lh (hG.out.drewN _)⟩
    case measure => have := Hc.out; simp only [leftTo]; omega
  ·have hci : ¬ (i : Int) < 48 := by omega
   have hbest : b = N := by
    rw [HN.out, ← best_sign, hB.out, List.drop_eq_nil_of_le (by show 48 ≤ i; omega)]; rfl
   have GW := Lh (G2.out.trans hG.out)
   subst hbest
   clear hB HT hA hc G2
   by_cases hb0 : b = 0
   ·subst hb0
    go_wp2_with fail
    go_ret
    exact ⟨rfl, GW.out⟩
   ·have hb1 : ((b : Int) == 0) = false := by simp; omega
    have hbr := hb.out
    have hbi : (b : Int) ≤ (r.size : Int) := by omega
    obtain ⟨tx, htx⟩ : ∃ tx, tx = r.extract 0 b := ⟨_, rfl⟩
    have htxl : tx.data.toList = (byt (S.drop at_)).take b := by rw [htx, HE.out, Hrl.out]
    obtain ⟨n, rfl⟩ : ∃ n, b = n + 1 := ⟨b - 1, by omega⟩
    obtain ⟨m, hm⟩ : ∃ m, m = n + 1 := ⟨_, rfl⟩
    rw [← hm] at htx htxl hb1 hbi hbr ⊢
    have hSP : ∀ (w' : World), (PutP G P base tm rt tms ks (sgnT (S.drop at_) m rt tms (decide (en = at_)) ops).1 S (at_ + m) (sgnT (S.drop at_) m rt tms (decide (en = at_)) ops).2 w w') → SignP G P base tm rt tms ks S at_ en ops w (n + 1) (.returned (.bool true)) w' := by
     intro w' hp
     subst hm
     exact ⟨rfl, hp⟩
    have HSP := Lh hSP
    have Htxl := Lh htxl
    have ha0 := Hat.out
    have hS0 := HSl.out
    obtain ⟨q, hq⟩ : ∃ q, q = at_ + m := ⟨_, rfl⟩
    have hqm : (at_ : Int) + (m : Int) = (q : Int) := by omega
    have hq1 : (q : Int) ≤ 9223372036854775807 := by omega
    have hq2 : -9223372036854775808 ≤ (q : Int) := by omega
    have hwq : IntKind.i64.wrap (q : Int) = (q : Int) := by rw [IntKind.wrap_i64]; omega
    have hbm : (m : Int) ≤ (r.size : Int) := by omega
    have HPS := Lh (fun (W : World) (ops' : List Nat) (ov' : Value) (hR : RSt G W P base S at_ tm en rt tms ops' ks s pv tv bv ov') (o : Nat) => put_sign hR Hat.out Hks.out htxl o)
    rw [← hq] at HPS HSP
    have KW := Lh (heap_alloc_new wr (.cells #[.int .i64 3, .int .i64 0, .string tx, .string ⟨#[]⟩, .string ⟨#[]⟩, .int .i64 0] 42))
    have GA := Lh (GW.out.alloc (.cells #[.int .i64 3, .int .i64 0, .string tx, .string ⟨#[]⟩, .string ⟨#[]⟩, .int .i64 0] 42))
    obtain ⟨gb, hgb⟩ : ∃ gb, gb = wr.heap.size := ⟨_, rfl⟩
    have Hgb : Hid (w.heap.size ≤ gb) := Lh (by rw [hgb]; exact GW.out.size)
    rw [← hgb] at KW
    have Hgb2 := Lh hgb
    clear hb0 hm hSP htxl hq hgb hb hbr ha0 hS0
    subst htx
    by_cases h123 : (r.extract 0 m).data.toList = [123]
    ·have t1 : ((r.extract 0 m).toList == [123]) = true := by rw [ByteArray.toList_eq, h123]; rfl
     rw [sgnT_open (by rw [← Htxl.out]; exact h123)] at HSP
     have HO := Lh (fun (W : World) (gW : Gr w W) => openOf_r (H.out.gr gW) Hks.out)
     generalize openS rt tms (decide (en = at_)) = O at *
     clear h123
     have hgP : gb ≠ P := by have := Hgb.out; have := H.out.sc.lt; omega
     have htv : tv.ownBlock ≠ some gb := own_apart H.out.t (.inr Hgb.out)
     have HgP := Lh hgP
     have Htv := Lh htv
     go_wp2_with fail
     refine (HO.out _ GA.out).mono ?_
     rintro e3 w3 ⟨rfl, g3⟩
     have K3 := Lh ((g3.block _ (Ag KW.out).1).trans KW.out)
     have G3 := Lh (GA.out.trans g3)
     have R3 := Lh (H.out.gr G3.out)
     clear g3 KW GA HO
     rw [← Hgb2.out]
     obtain ⟨kc, kf⟩ := cellsOf K3.out
     have k0 := kc 0
     have k1 := kc 1
     have k2 := kc 2
     have k3 := kc 3
     have k4 := kc 4
     have k5 := kc 5
     simp at k0 k1 k2 k3 k4 k5
     clear kc
     go_upto_region 16 with fail
     have R4 := Lh (R3.out.other (j := 5) (u := .int .i64 (O : Int)) K3.out HgP.out Htv.out)
     have K4 : Hid ((w3.setCell ⟨gb, 5, none⟩ (.int .i64 (O : Int))).heap[gb]? = some (.cells #[.int .i64 3, .int .i64 0, .string (r.extract 0 m), .string ⟨#[]⟩, .string ⟨#[]⟩, .int .i64 (O : Int)] 42 (0, 0))) := Lh (by simp [World.setCell, Array.getElem?_modify, K3.out])
     have F4 : Hid (Fr P base w (w3.setCell ⟨gb, 5, none⟩ (.int .i64 (O : Int)))) := Lh (sign_fr1 G3.out H.out.bw Hgb.out)
     generalize hW4 : w3.setCell ⟨gb, 5, none⟩ (.int .i64 (O : Int)) = W4 at *
     clear hW4 k0 k1 k2 k3 k4 k5 kf
     obtain ⟨kc, kf⟩ := cellsOf K4.out
     have k0 := kc 0
     have k1 := kc 1
     have k2 := kc 2
     have k3 := kc 3
     have k4 := kc 4
     have k5 := kc 5
     simp at k0 k1 k2 k3 k4 k5
     clear kc
     obtain ⟨c0, c1, c2, c3, c4, c5, c6, c7, c8, cf⟩ := R4.out.sc.cells
     obtain ⟨_, _, _, _, _, _, b6, _, _, _⟩ := (R4.out.sc.gr ((Gr.refl W4).alloc (.cells #[.int .i64 (O : Int)] 3))).cells
     have hol := Hop.out
     have Ho0 : Hid (∀ W : World, Gr W4 W → Fr P base w W) := Lh (fun W g => F4.out.trans (Fr.of_but (But.of_gr g) R4.out.bw))
     obtain ⟨m0, hm0⟩ : ∃ m0, m0 = (ops.reverse ++ [O]).length := ⟨_, rfl⟩
     have Hm0 := Lh hm0
     clear hm0
     go_region_law (refine step_of rfl (wp_append_open (.tmp 61) (.tmp 64) rfl base ov ops.reverse rfl (R4.out.o.gr (((Gr.refl W4).drew).alloc _)) (by rw [List.length_reverse]; omega) O ⟨W4.heap.size, 0, none⟩ 1 rfl (newCellsAt (l := [.int .i64 (O : Int)]) (by simp) rfl) (by have := R4.out.bw; simp; omega) fun v' w' h1 h2 h3 => ?_); obtain ⟨ao, cap, hv⟩ := ownsRow_shape h1; rw [← Hm0.out] at hv; subst hv; have HR5 := Lh ((R4.out.gr (((Gr.refl W4).drew).alloc _)).grownO h1 h2 h3); have K5 := Lh (tok_grown (((((Gr.refl W4).drew).alloc _).block _ (Ag K4.out).1).trans K4.out) (R4.out.o.gr (((Gr.refl W4).drew).alloc _)) h2); obtain ⟨_, _, _, _, _, _, d6, _, _, df⟩ := ((R4.out.sc.gr (((Gr.refl W4).drew).alloc _)).grown h2 (ov_apart R4.out)).cells; clear h1 h2 h3)
     all_goals
      go_wp2_with fail
      obtain ⟨z1, z2⟩ := HR5.out
      have RZ := Lh z1
      have FZ := Lh ((Ho0.out _ (((Gr.refl W4).drew).alloc _)).trans z2)
      have KZ : Hid ((w'.setCell ⟨P, 6, none⟩ (.slice ao m0 cap)).heap[gb]? = some (.cells #[.int .i64 3, .int .i64 0, .string (r.extract 0 m), .string ⟨#[]⟩, .string ⟨#[]⟩, .int .i64 (O : Int)] 42 (0, 0))) := Lh (by
       have hgP := HgP.out
       simp [World.setCell, Array.getElem?_modify, Ne.symm hgP, K5.out])
      clear z1 z2 HR5 K5 R4 K4 F4 Ho0 hol
      generalize hZ : w'.setCell ⟨P, 6, none⟩ (.slice ao m0 cap) = Z at *
      clear hZ c0 c1 c2 c3 c4 c5 c6 c7 c8 cf b6 k0 k1 k2 k3 k4 k5 kf d6 df
      obtain ⟨c0, c1, c2, c3, c4, c5, c6, c7, c8, cf⟩ := RZ.out.sc.cells
      obtain ⟨kc, kf⟩ := cellsOf KZ.out
      have k0 := kc 0
      have k1 := kc 1
      have k2 := kc 2
      have k3 := kc 3
      have k4 := kc 4
      have k5 := kc 5
      simp at k0 k1 k2 k3 k4 k5
      clear kc
      have HP3 := Lh (HPS.out Z.drew _ _ (RZ.out.gr (Gr.refl Z).drew) O)
      go_region_with (go_at_call 55; refine (HP3.out).mono ?_; rintro e9 w9 ⟨rfl, p9⟩; have P9 := Lh p9; clear p9)
      all_goals
       go_wp2_with fail
       go_ret
       exact HSP.out _ (putP_fr (FZ.out.trans (Fr.of_but (But.of_gr (Gr.refl Z).drew) RZ.out.bw)) P9.out)
    ·have t1 : ((r.extract 0 m).toList == [123]) = false := by rw [ByteArray.toList_eq]; simpa using h123
     by_cases h125 : (r.extract 0 m).data.toList = [125]
     ·have t2 : ((r.extract 0 m).toList == [125]) = true := by rw [ByteArray.toList_eq, h125]; rfl
      rw [sgnT_shut (by rw [← Htxl.out]; exact h125)] at HSP
      clear h123 h125
      go_upto_region 19 with fail
      rw [← Hgb2.out]
      have KX := Lh (heap_alloc_new wr (.cells #[.int .i64 3, .int .i64 0, .string (r.extract 0 m), .string ⟨#[]⟩, .string ⟨#[]⟩, .int .i64 1] 42))
      have GX := Lh (GW.out.alloc (.cells #[.int .i64 3, .int .i64 0, .string (r.extract 0 m), .string ⟨#[]⟩, .string ⟨#[]⟩, .int .i64 1] 42))
      rw [← Hgb2.out] at KX
      generalize hX : wr.alloc (.cells #[.int .i64 3, .int .i64 0, .string (r.extract 0 m), .string ⟨#[]⟩, .string ⟨#[]⟩, .int .i64 1] 42) = X at *
      have RX := Lh (H.out.gr GX.out)
      clear hX KW GA
      cases ops with
      | nil =>
       obtain ⟨ao, cap, hov⟩ := RX.out.o.shape
       rw [show ([] : List Nat).reverse.length = 0 from rfl] at hov
       subst hov
       obtain ⟨c0, c1, c2, c3, c4, c5, c6, c7, c8, cf⟩ := RX.out.sc.cells
       obtain ⟨kc, kf⟩ := cellsOf KX.out
       have k0 := kc 0
       have k1 := kc 1
       have k2 := kc 2
       have k3 := kc 3
       have k4 := kc 4
       have k5 := kc 5
       simp at k0 k1 k2 k3 k4 k5
       clear kc
       have HP3 := Lh (HPS.out X.drew _ _ (RX.out.gr (Gr.refl X).drew) 1)
       rw [show (((1 : Nat) : Int)) = 1 from rfl] at HP3
       go_upto_region 23 with fail
       go_region_with (go_at_call 55; refine (HP3.out).mono ?_; rintro e9 w9 ⟨rfl, p9⟩; have P9 := Lh p9; clear p9)
       all_goals
        go_wp2_with fail
        go_ret
        exact HSP.out _ (putP_from (GX.out.trans (Gr.refl X).drew) H.out.bw P9.out)
      | cons o os =>
       have hol := RX.out.o
       rw [List.reverse_cons] at hol
       obtain ⟨g, cap, hov, hcap, hcell, hO2⟩ := hol.last
       subst hov
       obtain ⟨l, hl⟩ : ∃ l, l = os.reverse.length := ⟨_, rfl⟩
       rw [← hl] at hcap hcell hO2
       obtain ⟨m9, hm9⟩ : ∃ m9, m9 = l + 1 := ⟨_, rfl⟩
       have hl4 : l ≤ 4000 := by have := Hop.out; simp at this; rw [hl, List.length_reverse]; omega
       obtain ⟨c0, c1, c2, c3, c4, c5, c6, c7, c8, cf⟩ := RX.out.sc.cells
       rw [← hl, ← hm9] at c6
       have n1 : (m9 : Int) - 1 = (l : Int) := by omega
       have n2 : (m9 : Int) > 0 := by omega
       have n3 : (l : Int) < (m9 : Int) := by omega
       have n4 : (l : Int) ≤ (cap : Int) := by omega
       have n5 : IntKind.i64.wrap (l : Int) = (l : Int) := by rw [IntKind.wrap_i64]; omega
       have hap2 : ∀ i, (Value.slice (some ⟨g, 0, none⟩) l l).ownBlock = some i → pv.ownBlock ≠ some i := fun i hi => RX.out.ap i hi
       have HO2 := Lh hO2
       have Hap2 := Lh hap2
       obtain ⟨kc, kf⟩ := cellsOf KX.out
       have k0 := kc 0
       have k1 := kc 1
       have k2 := kc 2
       have k3 := kc 3
       have k4 := kc 4
       have k5 := kc 5
       simp at k0 k1 k2 k3 k4 k5
       have hgP : gb ≠ P := by have := Hgb.out; have := H.out.sc.lt; omega
       have htv : tv.ownBlock ≠ some gb := own_apart H.out.t (.inr Hgb.out)
       have HgP := Lh hgP
       have Htv := Lh htv
       clear kc hol hcap hO2 hap2 hl hm9 hl4
       go_upto_region 23 with fail
       have RY0 := Lh ((RX.out.other (j := 5) (u := .int .i64 (o : Int)) KX.out HgP.out Htv.out).setOv (HO2.out.keep (KeepI.other KX.out)) Hap2.out)
       have KY0 : Hid (((X.setCell ⟨gb, 5, none⟩ (.int .i64 (o : Int))).setCell ⟨P, 6, none⟩ (.slice (some ⟨g, 0, none⟩) l l)).heap[gb]? = some (.cells #[.int .i64 3, .int .i64 0, .string (r.extract 0 m), .string ⟨#[]⟩, .string ⟨#[]⟩, .int .i64 (o : Int)] 42 (0, 0))) := Lh (by
        have hgP := HgP.out
        simp [World.setCell, Array.getElem?_modify, Ne.symm hgP, KX.out])
       have FY0 : Hid (Fr P base w ((X.setCell ⟨gb, 5, none⟩ (.int .i64 (o : Int))).setCell ⟨P, 6, none⟩ (.slice (some ⟨g, 0, none⟩) l l))) := Lh (sign_fr GX.out H.out.bw Hgb.out)
       generalize hY : (X.setCell ⟨gb, 5, none⟩ (.int .i64 (o : Int))).setCell ⟨P, 6, none⟩ (.slice (some ⟨g, 0, none⟩) l l) = Y at *
       clear hY c0 c1 c2 c3 c4 c5 c6 c7 c8 cf k0 k1 k2 k3 k4 k5 kf hcell
       obtain ⟨c0, c1, c2, c3, c4, c5, c6, c7, c8, cf⟩ := RY0.out.sc.cells
       obtain ⟨kc, kf⟩ := cellsOf KY0.out
       have k0 := kc 0
       have k1 := kc 1
       have k2 := kc 2
       have k3 := kc 3
       have k4 := kc 4
       have k5 := kc 5
       simp at k0 k1 k2 k3 k4 k5
       clear kc
       have HP3 := Lh (HPS.out Y.drew _ _ (RY0.out.gr (Gr.refl Y).drew) o)
       go_region_with (go_at_call 55; refine (HP3.out).mono ?_; rintro e9 w9 ⟨rfl, p9⟩; have P9 := Lh p9; clear p9)
       all_goals
        go_wp2_with fail
        go_ret
        exact HSP.out _ (putP_fr (FY0.out.trans (Fr.of_but (But.of_gr (Gr.refl Y).drew) RY0.out.bw)) P9.out)
     ·have t2 : ((r.extract 0 m).toList == [125]) = false := by rw [ByteArray.toList_eq]; simpa using h125
      rw [sgnT_no (by rw [← Htxl.out]; exact h123) (by rw [← Htxl.out]; exact h125)] at HSP
      clear h123 h125
      go_wp2_with fail
      rw [← Hgb2.out]
      generalize hX : wr.alloc (.cells #[.int .i64 3, .int .i64 0, .string (r.extract 0 m), .string ⟨#[]⟩, .string ⟨#[]⟩, .int .i64 0] 42) = X at *
      have RX := Lh (H.out.gr GA.out)
      clear hX
      obtain ⟨c0, c1, c2, c3, c4, c5, c6, c7, c8, cf⟩ := RX.out.sc.cells
      obtain ⟨kc, kf⟩ := cellsOf KW.out
      have k0 := kc 0
      have k1 := kc 1
      have k2 := kc 2
      have k3 := kc 3
      have k4 := kc 4
      have k5 := kc 5
      simp at k0 k1 k2 k3 k4 k5
      clear kc
      have HP3 := Lh (HPS.out X.drew ops ov (RX.out.gr (Gr.refl X).drew) 0)
      go_region_with (go_at_call 55; refine (HP3.out).mono ?_; rintro e9 w9 ⟨rfl, p9⟩; have P9 := Lh p9; clear p9)
      all_goals
       go_wp2_with fail
       go_ret
       exact HSP.out _ (putP_from (GA.out.trans (Gr.refl X).drew) H.out.bw P9.out)
end Go.Proofs.YthmopindibdhnaaGreatDoor.G
