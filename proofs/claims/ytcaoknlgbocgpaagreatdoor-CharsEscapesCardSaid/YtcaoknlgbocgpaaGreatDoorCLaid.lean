/- The listed variables that escapes read: the library's table of trailing zeros, and its variable of an error. -/
import Derived.Test.YtcaoknlgbocgpaaGreatDoorCLEsc
import Derived.Test.YtcaoknlgbocgpaaGreatDoorOpenU
import Derived.LaidSub
import Derived.Lib.LaidTab
import Derived.Stop.LaidErr
namespace Go.Proofs.YtcaoknlgbocgpaaGreatDoor
open Go.RowKit Go.Shelf
theorem dtab_in {W : World} {l : List (String × DataW Unit)} (h : laidMet Tryz.prog l W) (hf : l.filter (fun x => x.1 == "math/bits.deBruijn64tab") = [("math/bits.deBruijn64tab", Lib.tabData .u8 (Lib.deBruijn64tab.map Int.ofNat))]) : DTab W := by
  have h2 := h.filter (fun x => x.1 == "math/bits.deBruijn64tab")
  rw [hf] at h2
  have t := Lib.tabIs_of_head (g := 8) (t := 173) (e := 5) (n := 64) (by kernel_rfl) (by kernel_rfl) Tryz.underlying173 Tryz.underlying5 (by kernel_rfl) (by kernel_rfl) h2
  intro j hj
  have hj' : j < (Lib.deBruijn64tab.map Int.ofNat).length := by rw [List.length_map]; exact hj
  have := t.cell (g := 8) (by kernel_rfl) j hj'
  rw [this, List.getD_eq_getElem?_getD, List.getD_eq_getElem?_getD, List.getElem?_map, List.getElem?_eq_getElem hj]
  rfl
theorem errStar : "*" ++ "errors.errorString" = "*errors.errorString" := by decide
theorem errRow (u : TypeId) (h : Tryz.prog.typeName? 3 u = some "*errors.errorString") : u = 158 :=
  typeName_ptr_named (nm := "errors.errorString") (by rw [errStar]; kernel_rfl) (by kernel_rfl) (by decide) u (by rw [errStar]; exact h)
theorem errv_in {W : World} {l : List (String × DataW Unit)} {text : List UInt8} (h : laidMet Tryz.prog l W) (hf : l.filter (fun x => x.1 == "strconv.ErrSyntax") = [("strconv.ErrSyntax", .iface "*errors.errorString" (.ptr (.agg [.lit (.string text)])))]) : ErrV W := by
  have h2 := h.filter (fun x => x.1 == "strconv.ErrSyntax")
  rw [hf] at h2
  obtain ⟨a1, s1, hv1, _⟩ := laid_sentinel h2 (g := 4) (ti := 52) (tp := 158) (te := 160) (ts := 9) (by kernel_rfl) (by kernel_rfl) Tryz.underlying52 errRow Tryz.underlying158 Tryz.underlying160 rfl rfl Tryz.underlying9 (by kernel_rfl) (by kernel_rfl)
  have hc := World.var?_cell (show Tryz.prog.globalNamed "strconv.ErrSyntax" = some 4 by kernel_rfl) hv1 0
  exact ⟨_, _, by simpa using hc⟩
end Go.Proofs.YtcaoknlgbocgpaaGreatDoor
