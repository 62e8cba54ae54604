import Derived.Test.YthmopindibdhnaaGreatDoorQ00
import Derived.Test.YthmopindibdhnaaGreatDoorQ20
namespace Go.Proofs.YthmopindibdhnaaGreatDoor.G
open Go.RowKit Go.Shelf Go.Maps
variable {w w' : World} {P base : Nat} {s : ByteArray} {pv : Value} {at_ : Nat} {tv bv : Value} {tm : Bool} {ov : Value} {en : Nat} {sg : Bool}
def sgB (rt : List RTok) (tms : List Bool) : Bool := match rt with
 | [] => false
 | x :: _ => tms.headD false && (isSg x [36] || isSg x [64] || isSg x [37] || isSg x [38])
structure Lk (G : Prop) (k : Tok) (t : RTok) : Prop where
 kind : k.kind = t.kind
 opn : k.opn = t.opn
 sgn : t.kind = 3 → k.text.data.toList = t.raw
 own : G → k = rend t
def Lks (G : Prop) : List Tok → List RTok → Prop
 | [], [] => True
 | k :: ks, t :: ts => Lk G k t ∧ Lks G ks ts
 | _, _ => False
theorem Lks.len {G : Prop} : ∀ {ks : List Tok} {ts : List RTok}, Lks G ks ts → ks.length = ts.length
 | [], [], _ => rfl
 | _ :: ks, _ :: ts, h => by simp [Lks.len (ks := ks) (ts := ts) h.2]
 | [], _ :: _, h => h.elim
 | _ :: _, [], h => h.elim
theorem Lk.sgOf {G : Prop} {k : Tok} {t : RTok} (h : Lk G k t) (l : List UInt8) : (k.kind == 3 && (k.text.toList == l)) = isSg t l := by
 unfold isSg
 rw [h.kind, ByteArray.toList_eq]
 by_cases hk : t.kind = 3
 ·rw [h.sgn hk]
  have : ((t.kind : Int) == 3) = (t.kind == 3) := by simp [hk]
  rw [this]
 ·have h1 : ((t.kind : Int) == 3) = false := by simp; omega
  have h2 : (t.kind == 3) = false := by simpa using hk
  rw [h1, h2]; rfl
theorem Lk.ends {G : Prop} {k : Tok} {t : RTok} (h : Lk G k t) : begB k = endsS t := by
 have h1 := h.sgOf [59]
 have h2 := h.sgOf [123]
 have h3 := h.sgOf [125]
 have h4 : ((k.opn == 1) : Bool) = (t.opn == 1) := by
  rw [h.opn]
  by_cases e : t.opn = 1
  ·simp [e]
  ·have e1 : ((t.opn : Int) == 1) = false := by simp; omega
   have e2 : (t.opn == 1) = false := by simpa using e
   rw [e1, e2]
 unfold begB endsS
 rw [← h1, ← h2, ← h3, h4]
 cases (k.kind == 3) <;> simp
structure RSt (G : Prop) (w : World) (P base : Nat) (S : Src) (a : Nat) (tm : Bool) (en : Nat) (rt : List RTok) (tms : List Bool) (ops : List Nat) (ks : List Tok) (s : ByteArray) (pv tv bv ov : Value) : Prop where
 eq : s.data.toList = byt S
 sc : RSc w P s pv a tv bv tm ov en (sgB rt tms)
 t : OwnT w base tv ks.reverse
 b : OwnB w base bv tms.reverse
 o : OwnO w base ov ops.reverse
 p : OwnP w base pv S
 lk : Lks G ks rt
 gs : G → ∀ c ∈ byt S, ownC c = true
 le : S.length ≤ 4000
 tl : tms.length = rt.length
 ap : ∀ i, ov.ownBlock = some i → pv.ownBlock ≠ some i
 pb : P < base
 bw : base ≤ w.heap.size
variable {G : Prop} {S : Src} {rt : List RTok} {tms : List Bool} {ops : List Nat} {ks : List Tok}
theorem RSt.size (h : RSt G w P base S at_ tm en rt tms ops ks s pv tv bv ov) : s.size = S.length := by rw [← sizeL, h.eq, byt_len]
theorem RSt.gr (h : RSt G w P base S at_ tm en rt tms ops ks s pv tv bv ov) (g : Gr w w') : RSt G w' P base S at_ tm en rt tms ops ks s pv tv bv ov :=
 ⟨h.eq, h.sc.gr g, ownsRow_gr h.t g, ownsRow_gr h.b g, h.o.gr g, ownsRow_gr h.p g, h.lk, h.gs, h.le, h.tl, h.ap, h.pb, Nat.le_trans h.bw g.size⟩
theorem fr_bw (h : Fr P base w w') (hb : base ≤ w.heap.size) : base ≤ w'.heap.size := Nat.le_trans hb h.size
theorem Lk.put {k p o : Int} {tx rp mo : ByteArray} {t : RTok} (h : Lk G ⟨k, p, tx, rp, mo, o⟩ t) (tm : Bool) (rt : List RTok) (tms : List Bool) :
  (tm && k == 3 && ([[36], [64], [37], [38]] : List (List UInt8)).contains tx.data.toList) = sgB (t :: rt) (tm :: tms) := by
 have h1 := h.sgOf [36]
 have h2 := h.sgOf [64]
 have h3 := h.sgOf [37]
 have h4 := h.sgOf [38]
 simp only [ByteArray.toList_eq] at h1 h2 h3 h4
 unfold sgB
 simp only [List.headD_cons, ← h1, ← h2, ← h3, ← h4, List.contains_cons, List.contains_nil]
 cases tm <;> cases (k == 3) <;> simp [Bool.or_assoc]
theorem put_g (h : RSt G w P base S at_ tm en rt tms ops ks s pv tv bv ov) (hat : at_ < S.length) (hks : ks.length ≤ 4000) {k p0 o : Int} {tx rp mo : ByteArray} (b : Nat) (t : RTok) (hL : Lk G ⟨k, S[at_].1, tx, rp, mo, o⟩ t) (hk : 0 ≤ k ∧ k ≤ 9) (hB : behindB k tx.data.toList o tm = behindB t.kind t.raw t.opn tm) :
  Calls Tryz.prog 55 #[.pointer (some ⟨P, 0, none⟩), .agg #[.int .i64 k, .int .i64 p0, .string tx, .string rp, .string mo, .int .i64 o], .int .i64 b] w fun e w' => e = .returned (.tuple #[]) ∧ ∃ tv' bv' kk, RSt G w' P base S b (behindB t.kind t.raw t.opn tm) b (t :: rt) (tm :: tms) ops (kk :: ks) s pv tv' bv' ov ∧ Fr P base w w' := by
 have h1 := h.lk.len
 have h2 := h.tl
 refine (put_r (k := k) (p0 := p0) (o := o) (tx := tx) (rp := rp) (mo := mo) h.sc h.t h.b h.p h.pb h.bw hat h.le (by simp; omega) b).mono ?_
 rintro e w' ⟨rfl, tv', bv', a1, a2, a3, a4, a6⟩
 refine ⟨rfl, tv', bv', ⟨k, S[at_].1, tx, rp, mo, o⟩, ⟨h.eq, ?_, by rw [List.reverse_cons]; exact a2, by rw [List.reverse_cons]; exact a3, h.o.keep a4, a4.own h.p, ⟨hL, h.lk⟩, h.gs, h.le, by simp [h.tl], h.ap, h.pb, fr_bw a6 h.bw⟩, a6⟩
 rw [hL.put tm rt tms, exp_behind hk, hB] at a1
 exact a1
theorem asIs_lk {k n : Nat} (hat : at_ < S.length) {tx : ByteArray} (htx : tx.data.toList = (byt (S.drop at_)).take n) : Lk G ⟨(k : Int), S[at_].1, tx, ⟨#[]⟩, ⟨#[]⟩, 0⟩ (asIs k n (S.drop at_)).1 := by
 refine ⟨rfl, rfl, fun _ => htx, fun _ => ?_⟩
 have hp : place (S.drop at_) = S[at_].1 := by rw [List.drop_eq_getElem_cons hat]; rfl
 have htb : tx = ba ((byt (S.drop at_)).take n) := by rw [← htx]; exact (barr_of (by simp [ba])).symm
 show (⟨(k : Int), _, tx, _, _, _⟩ : Tok) = ⟨((asIs k n (S.drop at_)).1.kind : Int), ((asIs k n (S.drop at_)).1.place : Int), ba (textP (asIs k n (S.drop at_)).1), ba (replP (asIs k n (S.drop at_)).1), ba (asIs k n (S.drop at_)).1.more, ((asIs k n (S.drop at_)).1.opn : Int)⟩
 rw [htb]
 unfold asIs
 simp only [hp]
 rfl
end Go.Proofs.YthmopindibdhnaaGreatDoor.G
