/- The parts of a blob, as the document has them: a plain function. Nothing of the program. -/
import Derived.Test.YtnadgdjaldemhaaGreatDoorGRB
import Derived.Test.YtnadgdjaldemhaaGreatDoorGRB
namespace Go.Proofs.YtnadgdjaldemhaaGreatDoor
open Go.RowKit
/-- the parts of a blob, as the document has them -/
def pOf (b : Bl) : List (List UInt8) := pIn b.dt
theorem rAdd_no {l : List Bl} {met : List (List UInt8)} {d : List UInt8} (h : ¬ bAt l d < l.length) : rAdd l met d = met := by
  unfold rAdd; rw [if_neg (fun q => h q.1)]
theorem rAdd_has {l : List Bl} {met : List (List UInt8)} {d : List UInt8} (h : (met.any fun t => d == t) = true) : rAdd l met d = met := by
  unfold rAdd; rw [if_neg (fun q => by rw [h] at q; cases q.2)]
theorem rAdd_new {l : List Bl} {met : List (List UInt8)} {d : List UInt8} (h : bAt l d < l.length) (h2 : (met.any fun t => d == t) = false) : rAdd l met d = met ++ [d] := by
  unfold rAdd; rw [if_pos ⟨h, h2⟩]
theorem rAdds_step {l : List Bl} {met ds : List (List UInt8)} {k : Nat} (h : k < ds.length) : rAdds l met (ds.take (k + 1)) = rAdd l (rAdds l met (ds.take k)) ds[k] := by
  unfold rAdds; rw [List.take_succ_eq_append_getElem h, List.foldl_append]; rfl
end Go.Proofs.YtnadgdjaldemhaaGreatDoor
