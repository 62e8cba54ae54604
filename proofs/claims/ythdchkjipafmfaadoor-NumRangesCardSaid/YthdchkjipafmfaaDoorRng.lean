/- Ranges of texts: the plain function, and what is owned. -/
import Derived.Test.YthdchkjipafmfaaDoorNxt
import Derived.WalkKit
import Derived.OwnWalk
namespace Go.Proofs.YthdchkjipafmfaaDoor
open Go.RowKit Go.Shelf
def strV (l : List UInt8) : Value := .string ⟨l.toArray⟩
theorem strV_of (b : ByteArray) : strV b.data.toList = .string b := by
  unfold strV
  congr 1
theorem barr_of {b : ByteArray} {l : List UInt8} (h : b.data.toList = l) : b = ⟨l.toArray⟩ := by
  subst h; congr 1
/-- the texts from s on up to t, at most n of them -/
def rg : Nat → List UInt8 → List UInt8 → Option (List (List UInt8))
  | 0, s, t => if t.length < s.length then some [] else none
  | n + 1, s, t => if t.length < s.length then some [] else if s = t then some [s] else (rg n (further s) t).map (s :: ·)
/-- what Range gives -/
def rgAll (f t : List UInt8) : Option (List (List UInt8)) := if 4096 < f.length ∨ 4096 < t.length then none else rg 200 f t
theorem rgAll_long {f t : List UInt8} (h : 4096 < f.length ∨ 4096 < t.length) : rgAll f t = none := if_pos h
theorem rgAll_short {f t : List UInt8} (h1 : ¬ 4096 < f.length) (h2 : ¬ 4096 < t.length) : rgAll f t = rg 200 f t := if_neg (by omega)
def rgX : Option (List (List UInt8)) → List (List UInt8)
  | some xs => xs
  | none => []
def rgE : Option (List (List UInt8)) → Int
  | some _ => 0
  | none => 3
variable {n : Nat} {s t : List UInt8} {acc : List (List UInt8)} {R : Option (List (List UInt8))}
theorem rg_far (h : t.length < s.length) (hR : R = (rg n s t).map (acc ++ ·)) : R = some acc := by
  cases n with
  | zero => rw [hR, rg, if_pos h]; simp
  | succ n => rw [hR, rg, if_pos h]; simp
theorem rg_many (h : ¬ t.length < s.length) (hR : R = (rg 0 s t).map (acc ++ ·)) : R = none := by
  rw [hR, rg, if_neg h]; rfl
theorem rg_last (h : ¬ t.length < s.length) (he : s = t) (hR : R = (rg (n + 1) s t).map (acc ++ ·)) : R = some (acc ++ [s]) := by
  rw [hR, rg, if_neg h, if_pos he]; rfl
theorem rg_step (h : ¬ t.length < s.length) (he : ¬ s = t) (hR : R = (rg (n + 1) s t).map (acc ++ ·)) : R = (rg n (further s) t).map ((acc ++ [s]) ++ ·) := by
  rw [hR, rg, if_neg h, if_neg he, Option.map_map]
  congr 1
  funext x
  simp
theorem ownsRow_shape {w : World} {base e size n : Nat} {v : Value} {xs : List Value} (h : w.ownsRow base e size v n xs) : ∃ ao cap, v = .slice ao n cap := by
  rcases h.2 with ⟨rfl, rfl⟩ | ⟨g, cap, cur, rfl, _⟩
  · exact ⟨_, _, rfl⟩
  · exact ⟨_, _, rfl⟩
theorem ownsRow_gr {w w' : World} {base e size n : Nat} {v : Value} {xs : List Value} (h : w.ownsRow base e size v n xs) (hg : Gr w w') : w'.ownsRow base e size v n xs := by
  refine ⟨h.1, ?_⟩
  rcases h.2 with ⟨rfl, rfl⟩ | ⟨g, cap, cur, rfl, h1, h2, h3⟩
  · exact .inl ⟨rfl, rfl⟩
  · refine .inr ⟨g, cap, cur, rfl, h1, ?_, h3⟩
    have hlt : g < w.heap.size := by
      rw [Array.getElem?_eq_some_iff] at h2; exact h2.1
    have hb : Below w.heap.size w w' := hg
    rw [hb.block g hlt]; exact h2
def RngPost (R : Option (List (List UInt8))) (w : World) (e : Ending) (w' : World) : Prop :=
  ∃ v, e = .returned (.tuple #[v, .int .i64 (rgE R)]) ∧ w'.ownsRow w.heap.size 9 1 v (rgX R).length ((rgX R).map strV) ∧ Gr w w'
def slLen : Value → Nat
  | .slice _ n _ => n
  | _ => 0
theorem infoStr : (Tryd.prog.info? 9).map (fun i => (i.zero, i.size, i.bytes)) = some (some (.string ⟨#[]⟩), 1, 16) := by kernel_rfl
end Go.Proofs.YthdchkjipafmfaaDoor
