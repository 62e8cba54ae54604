import Derived.Lib.Hide
namespace Go.Proofs.YthmopindibdhnaaGreatDoor
theorem Lh {p : Prop} (h : p) : Go.RowKit.Hid p := h
theorem Ag {α : Type _} {xs : Array α} {i : Nat} {b : α} (h : xs[i]? = some b) : ∃ h : i < xs.size, xs[i] = b := Array.getElem?_eq_some_iff.1 h
end Go.Proofs.YthmopindibdhnaaGreatDoor
