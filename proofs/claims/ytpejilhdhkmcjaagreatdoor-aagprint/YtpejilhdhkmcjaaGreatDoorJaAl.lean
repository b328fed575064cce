/- Short names for six of the library's laws. -/
import Derived.Test.YtpejilhdhkmcjaaGreatDoorProg
namespace Go.Proofs.YtpejilhdhkmcjaaGreatDoor
theorem zA {α : Type _} (l : List α) (i : Nat) (a : α) : l.toArray.setIfInBounds i a = (l.set i a).toArray := List.setIfInBounds_toArray ..
theorem zB {α : Type _} (a b : α) (l : List α) : (a :: l).set 0 b = b :: l := rfl
theorem zC {α : Type _} (a b : α) (l : List α) (n : Nat) : (a :: l).set (n + 1) b = a :: l.set n b := rfl
theorem zD {α : Type _} (l : List α) (i : Nat) : l.toArray[i]? = l[i]? := List.getElem?_toArray ..
theorem zE {α : Type _} (a : α) (l : List α) : (a :: l)[0]? = some a := rfl
theorem zF {α : Type _} (a : α) (l : List α) (n : Nat) : (a :: l)[n + 1]? = l[n]? := rfl
end Go.Proofs.YtpejilhdhkmcjaaGreatDoor
