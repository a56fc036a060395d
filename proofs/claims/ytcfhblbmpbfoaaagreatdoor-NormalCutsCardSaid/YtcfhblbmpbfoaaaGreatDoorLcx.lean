/- props: what a file's words come to: mathematics. -/
import Derived.Test.YtcfhblbmpbfoaaaGreatDoorGv17
import Derived.Test.YtcfhblbmpbfoaaaGreatDoorGv19
namespace Go.Proofs.YtcfhblbmpbfoaaaGreatDoor
open Go Go.RowKit Go.Kt Go.Kt.Rg Go.Maps

/-! ### What is taken holds no CR -/
/-! ### What words come to, whatever the lines' numbers -/
def RdE (S T : RdS) : Prop := S.cs = T.cs ∧ S.ks = T.ks ∧ S.ds = T.ds ∧ S.fs = T.fs
def accW : RdS → List (List (List UInt8)) → Option RdS
  | S, [] => some S
  | S, w :: t => if (takeP 1 S w).1 ≠ 0 then none else accW (takeP 1 S w).2 t
def AlkR (S T : RdS) (L : List Nat) (r : Int) : Prop := clsV S r = clsV T r ∧ kndV S r = kndV T r ∧ dcpV S r = dcpV T r ∧ fldV S r = fldV T r ∧ ∀ b, cmpV (mdOf S L) r b = cmpV (mdOf T L) r b
end Go.Proofs.YtcfhblbmpbfoaaaGreatDoor
