/-
  NARROWER THAN 'FOR EVERY INPUT', by the rows' own cells (each row's printed sentence says how): BlobChecks: laid · BlobPuts: laid · BlobDrops: laid · BlobGood: laid · BlobHeld: laid · BlobTrue: laid · BlobAny: laid.
  DERIVED. THE GIVEN ROWS OF THIS SEAT. 7 by the template 'for every input the law returns true; each argument reads behind the call as it read before'; 0 by the template 'total and deterministic' (their statements: YtbnjbjdkajjfdaaDoorTotals.lean).
  GIVEN WITH THE SEED: the statements are not yours to turn. If you find one false, say at which input.
  Laid BY PROGRAM, IN A SANDBOX (cutbox-rows.mjs): the forced cells as the released guide's own fill.sh prints them over the translation 6a442c10c4c469c1… (all of the seat's roots in one cut). By AI agents, Wed Nov 11 2026. No macro, syntax, notation, axiom, sorry.
-/
import Derived.Test.YtbnjbjdkajjfdaaDoorChecked
import GoSem.Claim
import GoSem.ClaimJoined
import GoSem.ClaimMapViews
import Derived.JoinedTies
import Derived.KernelRfl
namespace Go.Proofs.YtbnjbjdkajjfdaaDoor
/- THE CELL 'sum', in the pinned program and in every row, IS THE sha256 OF THE DUMP (.gsa) THAT YtbnjbjdkajjfdaaDoorProg.lean LOADS. Nothing in Lean hashes anything: it is a label: what it is worth is what the hold of that sum in a sandbox is worth. -/
noncomputable def Tryd.pinned : Pinned := { name := "ytbnjbjdkajjfdaadoor", sum := "6a442c10c4c469c1862a0cfebeab35c4cf81c2e93895f72661960a8276b3a297", checked := Tryd.checked }
namespace Rows
def none {H : Type} : Left H := { results := [], args := [] }

/- WHAT THE LISTED PACKAGE-LEVEL VARIABLES READ AS WHEN THE CALL BEGINS. Each datum BY PROGRAM (the guide's laid-datum.mjs) off the statement by which the dump's own 'gosem.cut.vars' lays the variable. In a bare row this is a premise. The card (YtbnjbjdkajjfdaaDoorCards.lean) ties it to the program's text. -/
def laid_appleloft_sha_roundConstants {H : Type} : DataW H := .agg [.lit (.int .u32 1116352408), .lit (.int .u32 1899447441), .lit (.int .u32 3049323471), .lit (.int .u32 3921009573), .lit (.int .u32 961987163), .lit (.int .u32 1508970993), .lit (.int .u32 2453635748), .lit (.int .u32 2870763221), .lit (.int .u32 3624381080), .lit (.int .u32 310598401), .lit (.int .u32 607225278), .lit (.int .u32 1426881987), .lit (.int .u32 1925078388), .lit (.int .u32 2162078206), .lit (.int .u32 2614888103), .lit (.int .u32 3248222580), .lit (.int .u32 3835390401), .lit (.int .u32 4022224774), .lit (.int .u32 264347078), .lit (.int .u32 604807628), .lit (.int .u32 770255983), .lit (.int .u32 1249150122), .lit (.int .u32 1555081692), .lit (.int .u32 1996064986), .lit (.int .u32 2554220882), .lit (.int .u32 2821834349), .lit (.int .u32 2952996808), .lit (.int .u32 3210313671), .lit (.int .u32 3336571891), .lit (.int .u32 3584528711), .lit (.int .u32 113926993), .lit (.int .u32 338241895), .lit (.int .u32 666307205), .lit (.int .u32 773529912), .lit (.int .u32 1294757372), .lit (.int .u32 1396182291), .lit (.int .u32 1695183700), .lit (.int .u32 1986661051), .lit (.int .u32 2177026350), .lit (.int .u32 2456956037), .lit (.int .u32 2730485921), .lit (.int .u32 2820302411), .lit (.int .u32 3259730800), .lit (.int .u32 3345764771), .lit (.int .u32 3516065817), .lit (.int .u32 3600352804), .lit (.int .u32 4094571909), .lit (.int .u32 275423344), .lit (.int .u32 430227734), .lit (.int .u32 506948616), .lit (.int .u32 659060556), .lit (.int .u32 883997877), .lit (.int .u32 958139571), .lit (.int .u32 1322822218), .lit (.int .u32 1537002063), .lit (.int .u32 1747873779), .lit (.int .u32 1955562222), .lit (.int .u32 2024104815), .lit (.int .u32 2227730452), .lit (.int .u32 2361852424), .lit (.int .u32 2428436474), .lit (.int .u32 2756734187), .lit (.int .u32 3204031479), .lit (.int .u32 3329325298)]

/-- 'appleloftlaw.BlobChecks': WHATEVER THE INPUT: true; the input reads as it did. -/
def blobChecksSpec : ChangeSpec := { name := "blobChecks", fn := fun _ => fun
  | [d1, d2] => { results := [.lit (.bool true)], args := [d1, d2] }
  | _ => none }
def blobChecksRow : OpenClaim := { program := "ytbnjbjdkajjfdaadoor", sum := "6a442c10c4c469c1862a0cfebeab35c4cf81c2e93895f72661960a8276b3a297", func := "appleloft/appleloftlaw.BlobChecks", spec := "blobChecks", inPlace := ["internal/bytealg.IndexByteString"], named := ["appleloft/sha.roundConstants"], apart := false, laid := [("appleloft/sha.roundConstants", laid_appleloft_sha_roundConstants)] }
def BlobChecksSaid : Prop := blobChecksRow.holds Tryd.pinned (OpenSpec.ofChange blobChecksSpec)

/-- ITS FALSE NEIGHBOUR: 'it returns false'. Refute it at one input. -/
def blobChecksWrong : ChangeSpec := { name := "blobChecks", fn := fun _ => fun
  | [d1, d2] => { results := [.lit (.bool false)], args := [d1, d2] }
  | _ => none }
def BlobChecksWrongFalsely : Prop := blobChecksRow.holds Tryd.pinned (OpenSpec.ofChange blobChecksWrong)

/-- 'appleloftlaw.BlobPuts': WHATEVER THE INPUT: true; the input reads as it did. -/
def blobPutsSpec : ChangeSpec := { name := "blobPuts", fn := fun _ => fun
  | [d1, d2] => { results := [.lit (.bool true)], args := [d1, d2] }
  | _ => none }
def blobPutsRow : OpenClaim := { program := "ytbnjbjdkajjfdaadoor", sum := "6a442c10c4c469c1862a0cfebeab35c4cf81c2e93895f72661960a8276b3a297", func := "appleloft/appleloftlaw.BlobPuts", spec := "blobPuts", inPlace := ["slices.overlaps[appleloft/api.Blob]", "internal/bytealg.IndexByteString"], unfollowed := true, recurses := true, named := ["appleloft/sha.roundConstants"], apart := false, laid := [("appleloft/sha.roundConstants", laid_appleloft_sha_roundConstants)] }
def BlobPutsSaid : Prop := blobPutsRow.holds Tryd.pinned (OpenSpec.ofChange blobPutsSpec)

/-- ITS FALSE NEIGHBOUR: 'it returns false'. Refute it at one input. -/
def blobPutsWrong : ChangeSpec := { name := "blobPuts", fn := fun _ => fun
  | [d1, d2] => { results := [.lit (.bool false)], args := [d1, d2] }
  | _ => none }
def BlobPutsWrongFalsely : Prop := blobPutsRow.holds Tryd.pinned (OpenSpec.ofChange blobPutsWrong)

/-- 'appleloftlaw.BlobDrops': WHATEVER THE INPUT: true; the input reads as it did. -/
def blobDropsSpec : ChangeSpec := { name := "blobDrops", fn := fun _ => fun
  | [d1, d2] => { results := [.lit (.bool true)], args := [d1, d2] }
  | _ => none }
def blobDropsRow : OpenClaim := { program := "ytbnjbjdkajjfdaadoor", sum := "6a442c10c4c469c1862a0cfebeab35c4cf81c2e93895f72661960a8276b3a297", func := "appleloft/appleloftlaw.BlobDrops", spec := "blobDrops", inPlace := ["internal/bytealg.IndexByteString"], unfollowed := true, recurses := true, named := ["appleloft/sha.roundConstants"], apart := false, laid := [("appleloft/sha.roundConstants", laid_appleloft_sha_roundConstants)] }
def BlobDropsSaid : Prop := blobDropsRow.holds Tryd.pinned (OpenSpec.ofChange blobDropsSpec)

/-- ITS FALSE NEIGHBOUR: 'it returns false'. Refute it at one input. -/
def blobDropsWrong : ChangeSpec := { name := "blobDrops", fn := fun _ => fun
  | [d1, d2] => { results := [.lit (.bool false)], args := [d1, d2] }
  | _ => none }
def BlobDropsWrongFalsely : Prop := blobDropsRow.holds Tryd.pinned (OpenSpec.ofChange blobDropsWrong)

/-- 'appleloftkeep.BlobGood': WHATEVER THE INPUT: true; the input reads as it did. -/
def blobGoodSpec : ChangeSpec := { name := "blobGood", fn := fun _ => fun
  | [d1, d2] => { results := [.lit (.bool true)], args := [d1, d2] }
  | _ => none }
def blobGoodRow : OpenClaim := { program := "ytbnjbjdkajjfdaadoor", sum := "6a442c10c4c469c1862a0cfebeab35c4cf81c2e93895f72661960a8276b3a297", func := "appleloft/appleloftkeep.BlobGood", spec := "blobGood", inPlace := ["internal/bytealg.IndexByteString", "internal/bytealg.abigen_runtime_cmpstring", "slices.overlaps[appleloft/api.Blob]"], unfollowed := true, recurses := true, named := ["appleloft/sha.roundConstants"], apart := false, laid := [("appleloft/sha.roundConstants", laid_appleloft_sha_roundConstants)] }
def BlobGoodSaid : Prop := blobGoodRow.holds Tryd.pinned (OpenSpec.ofChange blobGoodSpec)

/-- ITS FALSE NEIGHBOUR: 'it returns false'. Refute it at one input. -/
def blobGoodWrong : ChangeSpec := { name := "blobGood", fn := fun _ => fun
  | [d1, d2] => { results := [.lit (.bool false)], args := [d1, d2] }
  | _ => none }
def BlobGoodWrongFalsely : Prop := blobGoodRow.holds Tryd.pinned (OpenSpec.ofChange blobGoodWrong)

/-- 'appleloftkeep.BlobHeld': WHATEVER THE INPUT: true; the input reads as it did. -/
def blobHeldSpec : ChangeSpec := { name := "blobHeld", fn := fun _ => fun
  | [d] => { results := [.lit (.bool true)], args := [d] }
  | _ => none }
def blobHeldRow : OpenClaim := { program := "ytbnjbjdkajjfdaadoor", sum := "6a442c10c4c469c1862a0cfebeab35c4cf81c2e93895f72661960a8276b3a297", func := "appleloft/appleloftkeep.BlobHeld", spec := "blobHeld", inPlace := ["internal/bytealg.IndexByteString", "internal/bytealg.abigen_runtime_cmpstring", "slices.overlaps[appleloft/api.Blob]"], unfollowed := true, recurses := true, named := ["appleloft/sha.roundConstants"], apart := false, laid := [("appleloft/sha.roundConstants", laid_appleloft_sha_roundConstants)] }
def BlobHeldSaid : Prop := blobHeldRow.holds Tryd.pinned (OpenSpec.ofChange blobHeldSpec)

/-- ITS FALSE NEIGHBOUR: 'it returns false'. Refute it at one input. -/
def blobHeldWrong : ChangeSpec := { name := "blobHeld", fn := fun _ => fun
  | [d] => { results := [.lit (.bool false)], args := [d] }
  | _ => none }
def BlobHeldWrongFalsely : Prop := blobHeldRow.holds Tryd.pinned (OpenSpec.ofChange blobHeldWrong)

/-- 'appleloftkeep.BlobTrue': WHATEVER THE INPUT: true; the input reads as it did. -/
def blobTrueSpec : ChangeSpec := { name := "blobTrue", fn := fun _ => fun
  | [d1, d2] => { results := [.lit (.bool true)], args := [d1, d2] }
  | _ => none }
def blobTrueRow : OpenClaim := { program := "ytbnjbjdkajjfdaadoor", sum := "6a442c10c4c469c1862a0cfebeab35c4cf81c2e93895f72661960a8276b3a297", func := "appleloft/appleloftkeep.BlobTrue", spec := "blobTrue", named := ["appleloft/sha.roundConstants"], apart := false, laid := [("appleloft/sha.roundConstants", laid_appleloft_sha_roundConstants)] }
def BlobTrueSaid : Prop := blobTrueRow.holds Tryd.pinned (OpenSpec.ofChange blobTrueSpec)

/-- ITS FALSE NEIGHBOUR: 'it returns false'. Refute it at one input. -/
def blobTrueWrong : ChangeSpec := { name := "blobTrue", fn := fun _ => fun
  | [d1, d2] => { results := [.lit (.bool false)], args := [d1, d2] }
  | _ => none }
def BlobTrueWrongFalsely : Prop := blobTrueRow.holds Tryd.pinned (OpenSpec.ofChange blobTrueWrong)

/-- 'appleloftkeep.BlobAny': WHATEVER THE INPUT: true; the input reads as it did. -/
def blobAnySpec : ChangeSpec := { name := "blobAny", fn := fun _ => fun
  | [d] => { results := [.lit (.bool true)], args := [d] }
  | _ => none }
def blobAnyRow : OpenClaim := { program := "ytbnjbjdkajjfdaadoor", sum := "6a442c10c4c469c1862a0cfebeab35c4cf81c2e93895f72661960a8276b3a297", func := "appleloft/appleloftkeep.BlobAny", spec := "blobAny", inPlace := ["slices.overlaps[appleloft/api.Blob]"], unfollowed := true, recurses := true, named := ["appleloft/sha.roundConstants"], apart := false, laid := [("appleloft/sha.roundConstants", laid_appleloft_sha_roundConstants)] }
def BlobAnySaid : Prop := blobAnyRow.holds Tryd.pinned (OpenSpec.ofChange blobAnySpec)

/-- ITS FALSE NEIGHBOUR: 'it returns false'. Refute it at one input. -/
def blobAnyWrong : ChangeSpec := { name := "blobAny", fn := fun _ => fun
  | [d] => { results := [.lit (.bool false)], args := [d] }
  | _ => none }
def BlobAnyWrongFalsely : Prop := blobAnyRow.holds Tryd.pinned (OpenSpec.ofChange blobAnyWrong)

/- THE SECOND FORM. 'bulk': how many values and letters a reading holds, each counted each time it is reached (what is shared counts as often as it is met; a slice's spare places count too). A statement '..UptoSaid' is the law's where the arguments, and the package variables that the reading takes, are together of bulk at most 1048576: NARROWER than '..Said'. Prove '..Said' where nothing that the law and all that it calls make is longer than what came in: it says more and counts as full. Else prove '..UptoSaid'. A law counts once. -/
mutual
def uptoBulk {H : Type} : DataW H → Nat
  | .lit (.string bytes) => bytes.length + 1
  | .lit _ => 1
  | .nil => 1
  | .ptr d => uptoBulk d + 1
  | .slice elems spare => uptoBulkAll elems + uptoBulkAll spare + 1
  | .agg parts => uptoBulkAll parts + 1
  | .iface _ d => uptoBulk d + 1
  | .map entries => uptoBulkEntries entries + 1
  | .held _ => 1
def uptoBulkAll {H : Type} : List (DataW H) → Nat
  | [] => 0
  | d :: r => uptoBulk d + uptoBulkAll r
def uptoBulkEntries {H : Type} : List (Lit × DataW H) → Nat
  | [] => 0
  | x :: r => uptoBulkEntry x + uptoBulkEntries r
def uptoBulkEntry {H : Type} : Lit × DataW H → Nat
  | (.string bytes, d) => bytes.length + uptoBulk d + 1
  | (_, d) => uptoBulk d + 1
 end
def uptoSmall : (H : Type) → List (DataW H) → Bool := fun _ ds => decide (uptoBulkAll ds ≤ 1048576)
def OpenSpec.upto (s : _root_.Go.ChangeSpec) : _root_.Go.OpenSpec := { _root_.Go.OpenSpec.ofChange s with cond := some uptoSmall }

/-- 'appleloftlaw.BlobChecks', WHERE WHAT IT READS IS OF BULK AT MOST 1048576: true; the input reads as it did. -/
def blobChecksUptoRow : OpenClaim := { program := "ytbnjbjdkajjfdaadoor", sum := "6a442c10c4c469c1862a0cfebeab35c4cf81c2e93895f72661960a8276b3a297", func := "appleloft/appleloftlaw.BlobChecks", spec := "blobChecks", inPlace := ["internal/bytealg.IndexByteString"], named := ["appleloft/sha.roundConstants"], apart := false, laid := [("appleloft/sha.roundConstants", laid_appleloft_sha_roundConstants)], narrowed := true }
def BlobChecksUptoSaid : Prop := blobChecksUptoRow.holds Tryd.pinned (OpenSpec.upto blobChecksSpec)

/-- 'appleloftlaw.BlobPuts', WHERE WHAT IT READS IS OF BULK AT MOST 1048576: true; the input reads as it did. -/
def blobPutsUptoRow : OpenClaim := { program := "ytbnjbjdkajjfdaadoor", sum := "6a442c10c4c469c1862a0cfebeab35c4cf81c2e93895f72661960a8276b3a297", func := "appleloft/appleloftlaw.BlobPuts", spec := "blobPuts", inPlace := ["slices.overlaps[appleloft/api.Blob]", "internal/bytealg.IndexByteString"], unfollowed := true, recurses := true, named := ["appleloft/sha.roundConstants"], apart := false, laid := [("appleloft/sha.roundConstants", laid_appleloft_sha_roundConstants)], narrowed := true }
def BlobPutsUptoSaid : Prop := blobPutsUptoRow.holds Tryd.pinned (OpenSpec.upto blobPutsSpec)

/-- 'appleloftlaw.BlobDrops', WHERE WHAT IT READS IS OF BULK AT MOST 1048576: true; the input reads as it did. -/
def blobDropsUptoRow : OpenClaim := { program := "ytbnjbjdkajjfdaadoor", sum := "6a442c10c4c469c1862a0cfebeab35c4cf81c2e93895f72661960a8276b3a297", func := "appleloft/appleloftlaw.BlobDrops", spec := "blobDrops", inPlace := ["internal/bytealg.IndexByteString"], unfollowed := true, recurses := true, named := ["appleloft/sha.roundConstants"], apart := false, laid := [("appleloft/sha.roundConstants", laid_appleloft_sha_roundConstants)], narrowed := true }
def BlobDropsUptoSaid : Prop := blobDropsUptoRow.holds Tryd.pinned (OpenSpec.upto blobDropsSpec)

/-- 'appleloftkeep.BlobGood', WHERE WHAT IT READS IS OF BULK AT MOST 1048576: true; the input reads as it did. -/
def blobGoodUptoRow : OpenClaim := { program := "ytbnjbjdkajjfdaadoor", sum := "6a442c10c4c469c1862a0cfebeab35c4cf81c2e93895f72661960a8276b3a297", func := "appleloft/appleloftkeep.BlobGood", spec := "blobGood", inPlace := ["internal/bytealg.IndexByteString", "internal/bytealg.abigen_runtime_cmpstring", "slices.overlaps[appleloft/api.Blob]"], unfollowed := true, recurses := true, named := ["appleloft/sha.roundConstants"], apart := false, laid := [("appleloft/sha.roundConstants", laid_appleloft_sha_roundConstants)], narrowed := true }
def BlobGoodUptoSaid : Prop := blobGoodUptoRow.holds Tryd.pinned (OpenSpec.upto blobGoodSpec)

/-- 'appleloftkeep.BlobHeld', WHERE WHAT IT READS IS OF BULK AT MOST 1048576: true; the input reads as it did. -/
def blobHeldUptoRow : OpenClaim := { program := "ytbnjbjdkajjfdaadoor", sum := "6a442c10c4c469c1862a0cfebeab35c4cf81c2e93895f72661960a8276b3a297", func := "appleloft/appleloftkeep.BlobHeld", spec := "blobHeld", inPlace := ["internal/bytealg.IndexByteString", "internal/bytealg.abigen_runtime_cmpstring", "slices.overlaps[appleloft/api.Blob]"], unfollowed := true, recurses := true, named := ["appleloft/sha.roundConstants"], apart := false, laid := [("appleloft/sha.roundConstants", laid_appleloft_sha_roundConstants)], narrowed := true }
def BlobHeldUptoSaid : Prop := blobHeldUptoRow.holds Tryd.pinned (OpenSpec.upto blobHeldSpec)

/-- 'appleloftkeep.BlobTrue', WHERE WHAT IT READS IS OF BULK AT MOST 1048576: true; the input reads as it did. -/
def blobTrueUptoRow : OpenClaim := { program := "ytbnjbjdkajjfdaadoor", sum := "6a442c10c4c469c1862a0cfebeab35c4cf81c2e93895f72661960a8276b3a297", func := "appleloft/appleloftkeep.BlobTrue", spec := "blobTrue", named := ["appleloft/sha.roundConstants"], apart := false, laid := [("appleloft/sha.roundConstants", laid_appleloft_sha_roundConstants)], narrowed := true }
def BlobTrueUptoSaid : Prop := blobTrueUptoRow.holds Tryd.pinned (OpenSpec.upto blobTrueSpec)

/-- 'appleloftkeep.BlobAny', WHERE WHAT IT READS IS OF BULK AT MOST 1048576: true; the input reads as it did. -/
def blobAnyUptoRow : OpenClaim := { program := "ytbnjbjdkajjfdaadoor", sum := "6a442c10c4c469c1862a0cfebeab35c4cf81c2e93895f72661960a8276b3a297", func := "appleloft/appleloftkeep.BlobAny", spec := "blobAny", inPlace := ["slices.overlaps[appleloft/api.Blob]"], unfollowed := true, recurses := true, named := ["appleloft/sha.roundConstants"], apart := false, laid := [("appleloft/sha.roundConstants", laid_appleloft_sha_roundConstants)], narrowed := true }
def BlobAnyUptoSaid : Prop := blobAnyUptoRow.holds Tryd.pinned (OpenSpec.upto blobAnySpec)

end Rows
end Go.Proofs.YtbnjbjdkajjfdaaDoor
