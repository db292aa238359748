/-
  NARROWER THAN 'FOR EVERY INPUT', by the rows' own cells (each row's printed sentence says how): EvictWastes: laid · EvictClears: laid · EvictRuns: laid · EvictWaste: laid · EvictCleans: laid · EvictFits: laid · EvictHeld: laid · EvictAges: laid · EvictTwice: laid · EvictMore: laid.
  DERIVED. THE GIVEN ROWS OF THIS SEAT. 10 by the template 'for every input the law returns true; each argument reads behind the call as it read before'; 0 by the template 'total and deterministic' (their statements: YtekbgopdeancpaaGreatDoorTotals.lean).
  GIVEN WITH THE SEED: the statements are not yours to turn. If you find one false, say at which input.
  Laid BY PROGRAM, IN A SANDBOX (cutbox-rows.mjs): the forced cells as the released guide's own fill.sh prints them over the translation 9e221e488043ee6b… (all of the seat's roots in one cut). By AI agents, Wed Nov 11 2026. No macro, syntax, notation, axiom, sorry.
-/
import Derived.Test.YtekbgopdeancpaaGreatDoorChecked
import GoSem.Claim
import GoSem.ClaimJoined
import GoSem.ClaimMapViews
import Derived.JoinedTies
import Derived.KernelRfl
namespace Go.Proofs.YtekbgopdeancpaaGreatDoor
/- THE CELL 'sum', in the pinned program and in every row, IS THE sha256 OF THE DUMP (.gsa) THAT YtekbgopdeancpaaGreatDoorProg.lean LOADS. Nothing in Lean hashes anything: it is a label: what it is worth is what the hold of that sum in a sandbox is worth. -/
noncomputable def Tryz.pinned : Pinned := { name := "ytekbgopdeancpaagreatdoor", sum := "9e221e488043ee6b3742411ee211f0efc9b758723be0a4505f842babb6ad8510", checked := Tryz.checked }
namespace Rows
def none {H : Type} : Left H := { results := [], args := [] }

/- WHAT THE LISTED PACKAGE-LEVEL VARIABLES READ AS WHEN THE CALL BEGINS. Each datum BY PROGRAM (the guide's laid-datum.mjs) off the statement by which the dump's own 'gosem.cut.vars' lays the variable. In a bare row this is a premise. The card (YtekbgopdeancpaaGreatDoorCards.lean) ties it to the program's text. -/
def laid_appleloft_sha_roundConstants {H : Type} : DataW H := .agg [.lit (.int .u32 1116352408), .lit (.int .u32 1899447441), .lit (.int .u32 3049323471), .lit (.int .u32 3921009573), .lit (.int .u32 961987163), .lit (.int .u32 1508970993), .lit (.int .u32 2453635748), .lit (.int .u32 2870763221), .lit (.int .u32 3624381080), .lit (.int .u32 310598401), .lit (.int .u32 607225278), .lit (.int .u32 1426881987), .lit (.int .u32 1925078388), .lit (.int .u32 2162078206), .lit (.int .u32 2614888103), .lit (.int .u32 3248222580), .lit (.int .u32 3835390401), .lit (.int .u32 4022224774), .lit (.int .u32 264347078), .lit (.int .u32 604807628), .lit (.int .u32 770255983), .lit (.int .u32 1249150122), .lit (.int .u32 1555081692), .lit (.int .u32 1996064986), .lit (.int .u32 2554220882), .lit (.int .u32 2821834349), .lit (.int .u32 2952996808), .lit (.int .u32 3210313671), .lit (.int .u32 3336571891), .lit (.int .u32 3584528711), .lit (.int .u32 113926993), .lit (.int .u32 338241895), .lit (.int .u32 666307205), .lit (.int .u32 773529912), .lit (.int .u32 1294757372), .lit (.int .u32 1396182291), .lit (.int .u32 1695183700), .lit (.int .u32 1986661051), .lit (.int .u32 2177026350), .lit (.int .u32 2456956037), .lit (.int .u32 2730485921), .lit (.int .u32 2820302411), .lit (.int .u32 3259730800), .lit (.int .u32 3345764771), .lit (.int .u32 3516065817), .lit (.int .u32 3600352804), .lit (.int .u32 4094571909), .lit (.int .u32 275423344), .lit (.int .u32 430227734), .lit (.int .u32 506948616), .lit (.int .u32 659060556), .lit (.int .u32 883997877), .lit (.int .u32 958139571), .lit (.int .u32 1322822218), .lit (.int .u32 1537002063), .lit (.int .u32 1747873779), .lit (.int .u32 1955562222), .lit (.int .u32 2024104815), .lit (.int .u32 2227730452), .lit (.int .u32 2361852424), .lit (.int .u32 2428436474), .lit (.int .u32 2756734187), .lit (.int .u32 3204031479), .lit (.int .u32 3329325298)]

/-- 'appleloftlaw.EvictWastes': WHATEVER THE INPUT: true; the input reads as it did. -/
def evictWastesSpec : ChangeSpec := { name := "evictWastes", fn := fun _ => fun
  | [d] => { results := [.lit (.bool true)], args := [d] }
  | _ => none }
def evictWastesRow : OpenClaim := { program := "ytekbgopdeancpaagreatdoor", sum := "9e221e488043ee6b3742411ee211f0efc9b758723be0a4505f842babb6ad8510", func := "appleloft/appleloftlaw.EvictWastes", spec := "evictWastes", inPlace := ["internal/bytealg.IndexByteString"], unfollowed := true, recurses := true, named := ["appleloft/sha.roundConstants"], apart := false, laid := [("appleloft/sha.roundConstants", laid_appleloft_sha_roundConstants)] }
def EvictWastesSaid : Prop := evictWastesRow.holds Tryz.pinned (OpenSpec.ofChange evictWastesSpec)

/-- ITS FALSE NEIGHBOUR: 'it returns false'. Refute it at one input. -/
def evictWastesWrong : ChangeSpec := { name := "evictWastes", fn := fun _ => fun
  | [d] => { results := [.lit (.bool false)], args := [d] }
  | _ => none }
def EvictWastesWrongFalsely : Prop := evictWastesRow.holds Tryz.pinned (OpenSpec.ofChange evictWastesWrong)

/-- 'appleloftlaw.EvictClears': WHATEVER THE INPUT: true; the input reads as it did. -/
def evictClearsSpec : ChangeSpec := { name := "evictClears", fn := fun _ => fun
  | [d] => { results := [.lit (.bool true)], args := [d] }
  | _ => none }
def evictClearsRow : OpenClaim := { program := "ytekbgopdeancpaagreatdoor", sum := "9e221e488043ee6b3742411ee211f0efc9b758723be0a4505f842babb6ad8510", func := "appleloft/appleloftlaw.EvictClears", spec := "evictClears", inPlace := ["internal/bytealg.IndexByteString"], unfollowed := true, recurses := true, named := ["appleloft/sha.roundConstants"], apart := false, laid := [("appleloft/sha.roundConstants", laid_appleloft_sha_roundConstants)] }
def EvictClearsSaid : Prop := evictClearsRow.holds Tryz.pinned (OpenSpec.ofChange evictClearsSpec)

/-- ITS FALSE NEIGHBOUR: 'it returns false'. Refute it at one input. -/
def evictClearsWrong : ChangeSpec := { name := "evictClears", fn := fun _ => fun
  | [d] => { results := [.lit (.bool false)], args := [d] }
  | _ => none }
def EvictClearsWrongFalsely : Prop := evictClearsRow.holds Tryz.pinned (OpenSpec.ofChange evictClearsWrong)

/-- 'appleloftlaw.EvictRuns': WHATEVER THE INPUT: true; the input reads as it did. -/
def evictRunsSpec : ChangeSpec := { name := "evictRuns", fn := fun _ => fun
  | [d1, d2] => { results := [.lit (.bool true)], args := [d1, d2] }
  | _ => none }
def evictRunsRow : OpenClaim := { program := "ytekbgopdeancpaagreatdoor", sum := "9e221e488043ee6b3742411ee211f0efc9b758723be0a4505f842babb6ad8510", func := "appleloft/appleloftlaw.EvictRuns", spec := "evictRuns", inPlace := ["internal/bytealg.IndexByteString"], unfollowed := true, recurses := true, named := ["appleloft/sha.roundConstants"], apart := false, laid := [("appleloft/sha.roundConstants", laid_appleloft_sha_roundConstants)] }
def EvictRunsSaid : Prop := evictRunsRow.holds Tryz.pinned (OpenSpec.ofChange evictRunsSpec)

/-- ITS FALSE NEIGHBOUR: 'it returns false'. Refute it at one input. -/
def evictRunsWrong : ChangeSpec := { name := "evictRuns", fn := fun _ => fun
  | [d1, d2] => { results := [.lit (.bool false)], args := [d1, d2] }
  | _ => none }
def EvictRunsWrongFalsely : Prop := evictRunsRow.holds Tryz.pinned (OpenSpec.ofChange evictRunsWrong)

/-- 'appleloftkeep.EvictWaste': WHATEVER THE INPUT: true; the input reads as it did. -/
def evictWasteSpec : ChangeSpec := { name := "evictWaste", fn := fun _ => fun
  | [d] => { results := [.lit (.bool true)], args := [d] }
  | _ => none }
def evictWasteRow : OpenClaim := { program := "ytekbgopdeancpaagreatdoor", sum := "9e221e488043ee6b3742411ee211f0efc9b758723be0a4505f842babb6ad8510", func := "appleloft/appleloftkeep.EvictWaste", spec := "evictWaste", inPlace := ["internal/bytealg.IndexByteString", "internal/bytealg.abigen_runtime_cmpstring"], unfollowed := true, recurses := true, named := ["appleloft/sha.roundConstants"], apart := false, laid := [("appleloft/sha.roundConstants", laid_appleloft_sha_roundConstants)] }
def EvictWasteSaid : Prop := evictWasteRow.holds Tryz.pinned (OpenSpec.ofChange evictWasteSpec)

/-- ITS FALSE NEIGHBOUR: 'it returns false'. Refute it at one input. -/
def evictWasteWrong : ChangeSpec := { name := "evictWaste", fn := fun _ => fun
  | [d] => { results := [.lit (.bool false)], args := [d] }
  | _ => none }
def EvictWasteWrongFalsely : Prop := evictWasteRow.holds Tryz.pinned (OpenSpec.ofChange evictWasteWrong)

/-- 'appleloftkeep.EvictCleans': WHATEVER THE INPUT: true; the input reads as it did. -/
def evictCleansSpec : ChangeSpec := { name := "evictCleans", fn := fun _ => fun
  | [d] => { results := [.lit (.bool true)], args := [d] }
  | _ => none }
def evictCleansRow : OpenClaim := { program := "ytekbgopdeancpaagreatdoor", sum := "9e221e488043ee6b3742411ee211f0efc9b758723be0a4505f842babb6ad8510", func := "appleloft/appleloftkeep.EvictCleans", spec := "evictCleans", inPlace := ["internal/bytealg.IndexByteString", "internal/bytealg.abigen_runtime_cmpstring"], unfollowed := true, recurses := true, named := ["appleloft/sha.roundConstants"], apart := false, laid := [("appleloft/sha.roundConstants", laid_appleloft_sha_roundConstants)] }
def EvictCleansSaid : Prop := evictCleansRow.holds Tryz.pinned (OpenSpec.ofChange evictCleansSpec)

/-- ITS FALSE NEIGHBOUR: 'it returns false'. Refute it at one input. -/
def evictCleansWrong : ChangeSpec := { name := "evictCleans", fn := fun _ => fun
  | [d] => { results := [.lit (.bool false)], args := [d] }
  | _ => none }
def EvictCleansWrongFalsely : Prop := evictCleansRow.holds Tryz.pinned (OpenSpec.ofChange evictCleansWrong)

/-- 'appleloftkeep.EvictFits': WHATEVER THE INPUT: true; the input reads as it did. -/
def evictFitsSpec : ChangeSpec := { name := "evictFits", fn := fun _ => fun
  | [d1, d2] => { results := [.lit (.bool true)], args := [d1, d2] }
  | _ => none }
def evictFitsRow : OpenClaim := { program := "ytekbgopdeancpaagreatdoor", sum := "9e221e488043ee6b3742411ee211f0efc9b758723be0a4505f842babb6ad8510", func := "appleloft/appleloftkeep.EvictFits", spec := "evictFits", inPlace := ["internal/bytealg.IndexByteString", "internal/bytealg.abigen_runtime_cmpstring"], unfollowed := true, recurses := true, named := ["appleloft/sha.roundConstants"], apart := false, laid := [("appleloft/sha.roundConstants", laid_appleloft_sha_roundConstants)] }
def EvictFitsSaid : Prop := evictFitsRow.holds Tryz.pinned (OpenSpec.ofChange evictFitsSpec)

/-- ITS FALSE NEIGHBOUR: 'it returns false'. Refute it at one input. -/
def evictFitsWrong : ChangeSpec := { name := "evictFits", fn := fun _ => fun
  | [d1, d2] => { results := [.lit (.bool false)], args := [d1, d2] }
  | _ => none }
def EvictFitsWrongFalsely : Prop := evictFitsRow.holds Tryz.pinned (OpenSpec.ofChange evictFitsWrong)

/-- 'appleloftkeep.EvictHeld': WHATEVER THE INPUT: true; the input reads as it did. -/
def evictHeldSpec : ChangeSpec := { name := "evictHeld", fn := fun _ => fun
  | [d1, d2] => { results := [.lit (.bool true)], args := [d1, d2] }
  | _ => none }
def evictHeldRow : OpenClaim := { program := "ytekbgopdeancpaagreatdoor", sum := "9e221e488043ee6b3742411ee211f0efc9b758723be0a4505f842babb6ad8510", func := "appleloft/appleloftkeep.EvictHeld", spec := "evictHeld", inPlace := ["internal/bytealg.IndexByteString", "internal/bytealg.abigen_runtime_cmpstring"], unfollowed := true, recurses := true, named := ["appleloft/sha.roundConstants"], apart := false, laid := [("appleloft/sha.roundConstants", laid_appleloft_sha_roundConstants)] }
def EvictHeldSaid : Prop := evictHeldRow.holds Tryz.pinned (OpenSpec.ofChange evictHeldSpec)

/-- ITS FALSE NEIGHBOUR: 'it returns false'. Refute it at one input. -/
def evictHeldWrong : ChangeSpec := { name := "evictHeld", fn := fun _ => fun
  | [d1, d2] => { results := [.lit (.bool false)], args := [d1, d2] }
  | _ => none }
def EvictHeldWrongFalsely : Prop := evictHeldRow.holds Tryz.pinned (OpenSpec.ofChange evictHeldWrong)

/-- 'appleloftkeep.EvictAges': WHATEVER THE INPUT: true; the input reads as it did. -/
def evictAgesSpec : ChangeSpec := { name := "evictAges", fn := fun _ => fun
  | [d1, d2] => { results := [.lit (.bool true)], args := [d1, d2] }
  | _ => none }
def evictAgesRow : OpenClaim := { program := "ytekbgopdeancpaagreatdoor", sum := "9e221e488043ee6b3742411ee211f0efc9b758723be0a4505f842babb6ad8510", func := "appleloft/appleloftkeep.EvictAges", spec := "evictAges", inPlace := ["internal/bytealg.IndexByteString", "internal/bytealg.abigen_runtime_cmpstring"], unfollowed := true, recurses := true, named := ["appleloft/sha.roundConstants"], apart := false, laid := [("appleloft/sha.roundConstants", laid_appleloft_sha_roundConstants)] }
def EvictAgesSaid : Prop := evictAgesRow.holds Tryz.pinned (OpenSpec.ofChange evictAgesSpec)

/-- ITS FALSE NEIGHBOUR: 'it returns false'. Refute it at one input. -/
def evictAgesWrong : ChangeSpec := { name := "evictAges", fn := fun _ => fun
  | [d1, d2] => { results := [.lit (.bool false)], args := [d1, d2] }
  | _ => none }
def EvictAgesWrongFalsely : Prop := evictAgesRow.holds Tryz.pinned (OpenSpec.ofChange evictAgesWrong)

/-- 'appleloftkeep.EvictTwice': WHATEVER THE INPUT: true; the input reads as it did. -/
def evictTwiceSpec : ChangeSpec := { name := "evictTwice", fn := fun _ => fun
  | [d1, d2] => { results := [.lit (.bool true)], args := [d1, d2] }
  | _ => none }
def evictTwiceRow : OpenClaim := { program := "ytekbgopdeancpaagreatdoor", sum := "9e221e488043ee6b3742411ee211f0efc9b758723be0a4505f842babb6ad8510", func := "appleloft/appleloftkeep.EvictTwice", spec := "evictTwice", inPlace := ["internal/bytealg.IndexByteString", "internal/bytealg.abigen_runtime_cmpstring"], unfollowed := true, recurses := true, named := ["appleloft/sha.roundConstants"], apart := false, laid := [("appleloft/sha.roundConstants", laid_appleloft_sha_roundConstants)] }
def EvictTwiceSaid : Prop := evictTwiceRow.holds Tryz.pinned (OpenSpec.ofChange evictTwiceSpec)

/-- ITS FALSE NEIGHBOUR: 'it returns false'. Refute it at one input. -/
def evictTwiceWrong : ChangeSpec := { name := "evictTwice", fn := fun _ => fun
  | [d1, d2] => { results := [.lit (.bool false)], args := [d1, d2] }
  | _ => none }
def EvictTwiceWrongFalsely : Prop := evictTwiceRow.holds Tryz.pinned (OpenSpec.ofChange evictTwiceWrong)

/-- 'appleloftkeep.EvictMore': WHATEVER THE INPUT: true; the input reads as it did. -/
def evictMoreSpec : ChangeSpec := { name := "evictMore", fn := fun _ => fun
  | [d1, d2, d3] => { results := [.lit (.bool true)], args := [d1, d2, d3] }
  | _ => none }
def evictMoreRow : OpenClaim := { program := "ytekbgopdeancpaagreatdoor", sum := "9e221e488043ee6b3742411ee211f0efc9b758723be0a4505f842babb6ad8510", func := "appleloft/appleloftkeep.EvictMore", spec := "evictMore", inPlace := ["internal/bytealg.IndexByteString", "internal/bytealg.abigen_runtime_cmpstring"], unfollowed := true, recurses := true, named := ["appleloft/sha.roundConstants"], apart := false, laid := [("appleloft/sha.roundConstants", laid_appleloft_sha_roundConstants)] }
def EvictMoreSaid : Prop := evictMoreRow.holds Tryz.pinned (OpenSpec.ofChange evictMoreSpec)

/-- ITS FALSE NEIGHBOUR: 'it returns false'. Refute it at one input. -/
def evictMoreWrong : ChangeSpec := { name := "evictMore", fn := fun _ => fun
  | [d1, d2, d3] => { results := [.lit (.bool false)], args := [d1, d2, d3] }
  | _ => none }
def EvictMoreWrongFalsely : Prop := evictMoreRow.holds Tryz.pinned (OpenSpec.ofChange evictMoreWrong)

/- THE SECOND FORM. 'bulk': how many values and letters a reading holds, each counted each time it is reached (what is shared counts as often as it is met; a slice's spare places count too). A statement '..UptoSaid' is the law's where the arguments, and the package variables that the reading takes, are together of bulk at most 1048576: NARROWER than '..Said'. Prove '..Said' where nothing that the law and all that it calls make is longer than what came in: it says more and counts as full. Else prove '..UptoSaid'. A law counts once. -/
mutual
def uptoBulk {H : Type} : DataW H → Nat
  | .lit (.string bytes) => bytes.length + 1
  | .lit _ => 1
  | .nil => 1
  | .ptr d => uptoBulk d + 1
  | .slice elems spare => uptoBulkAll elems + uptoBulkAll spare + 1
  | .agg parts => uptoBulkAll parts + 1
  | .iface _ d => uptoBulk d + 1
  | .map entries => uptoBulkEntries entries + 1
  | .held _ => 1
def uptoBulkAll {H : Type} : List (DataW H) → Nat
  | [] => 0
  | d :: r => uptoBulk d + uptoBulkAll r
def uptoBulkEntries {H : Type} : List (Lit × DataW H) → Nat
  | [] => 0
  | x :: r => uptoBulkEntry x + uptoBulkEntries r
def uptoBulkEntry {H : Type} : Lit × DataW H → Nat
  | (.string bytes, d) => bytes.length + uptoBulk d + 1
  | (_, d) => uptoBulk d + 1
 end
def uptoSmall : (H : Type) → List (DataW H) → Bool := fun _ ds => decide (uptoBulkAll ds ≤ 1048576)
def OpenSpec.upto (s : _root_.Go.ChangeSpec) : _root_.Go.OpenSpec := { _root_.Go.OpenSpec.ofChange s with cond := some uptoSmall }

/-- 'appleloftlaw.EvictWastes', WHERE WHAT IT READS IS OF BULK AT MOST 1048576: true; the input reads as it did. -/
def evictWastesUptoRow : OpenClaim := { program := "ytekbgopdeancpaagreatdoor", sum := "9e221e488043ee6b3742411ee211f0efc9b758723be0a4505f842babb6ad8510", func := "appleloft/appleloftlaw.EvictWastes", spec := "evictWastes", inPlace := ["internal/bytealg.IndexByteString"], unfollowed := true, recurses := true, named := ["appleloft/sha.roundConstants"], apart := false, laid := [("appleloft/sha.roundConstants", laid_appleloft_sha_roundConstants)], narrowed := true }
def EvictWastesUptoSaid : Prop := evictWastesUptoRow.holds Tryz.pinned (OpenSpec.upto evictWastesSpec)

/-- 'appleloftlaw.EvictClears', WHERE WHAT IT READS IS OF BULK AT MOST 1048576: true; the input reads as it did. -/
def evictClearsUptoRow : OpenClaim := { program := "ytekbgopdeancpaagreatdoor", sum := "9e221e488043ee6b3742411ee211f0efc9b758723be0a4505f842babb6ad8510", func := "appleloft/appleloftlaw.EvictClears", spec := "evictClears", inPlace := ["internal/bytealg.IndexByteString"], unfollowed := true, recurses := true, named := ["appleloft/sha.roundConstants"], apart := false, laid := [("appleloft/sha.roundConstants", laid_appleloft_sha_roundConstants)], narrowed := true }
def EvictClearsUptoSaid : Prop := evictClearsUptoRow.holds Tryz.pinned (OpenSpec.upto evictClearsSpec)

/-- 'appleloftlaw.EvictRuns', WHERE WHAT IT READS IS OF BULK AT MOST 1048576: true; the input reads as it did. -/
def evictRunsUptoRow : OpenClaim := { program := "ytekbgopdeancpaagreatdoor", sum := "9e221e488043ee6b3742411ee211f0efc9b758723be0a4505f842babb6ad8510", func := "appleloft/appleloftlaw.EvictRuns", spec := "evictRuns", inPlace := ["internal/bytealg.IndexByteString"], unfollowed := true, recurses := true, named := ["appleloft/sha.roundConstants"], apart := false, laid := [("appleloft/sha.roundConstants", laid_appleloft_sha_roundConstants)], narrowed := true }
def EvictRunsUptoSaid : Prop := evictRunsUptoRow.holds Tryz.pinned (OpenSpec.upto evictRunsSpec)

/-- 'appleloftkeep.EvictWaste', WHERE WHAT IT READS IS OF BULK AT MOST 1048576: true; the input reads as it did. -/
def evictWasteUptoRow : OpenClaim := { program := "ytekbgopdeancpaagreatdoor", sum := "9e221e488043ee6b3742411ee211f0efc9b758723be0a4505f842babb6ad8510", func := "appleloft/appleloftkeep.EvictWaste", spec := "evictWaste", inPlace := ["internal/bytealg.IndexByteString", "internal/bytealg.abigen_runtime_cmpstring"], unfollowed := true, recurses := true, named := ["appleloft/sha.roundConstants"], apart := false, laid := [("appleloft/sha.roundConstants", laid_appleloft_sha_roundConstants)], narrowed := true }
def EvictWasteUptoSaid : Prop := evictWasteUptoRow.holds Tryz.pinned (OpenSpec.upto evictWasteSpec)

/-- 'appleloftkeep.EvictCleans', WHERE WHAT IT READS IS OF BULK AT MOST 1048576: true; the input reads as it did. -/
def evictCleansUptoRow : OpenClaim := { program := "ytekbgopdeancpaagreatdoor", sum := "9e221e488043ee6b3742411ee211f0efc9b758723be0a4505f842babb6ad8510", func := "appleloft/appleloftkeep.EvictCleans", spec := "evictCleans", inPlace := ["internal/bytealg.IndexByteString", "internal/bytealg.abigen_runtime_cmpstring"], unfollowed := true, recurses := true, named := ["appleloft/sha.roundConstants"], apart := false, laid := [("appleloft/sha.roundConstants", laid_appleloft_sha_roundConstants)], narrowed := true }
def EvictCleansUptoSaid : Prop := evictCleansUptoRow.holds Tryz.pinned (OpenSpec.upto evictCleansSpec)

/-- 'appleloftkeep.EvictFits', WHERE WHAT IT READS IS OF BULK AT MOST 1048576: true; the input reads as it did. -/
def evictFitsUptoRow : OpenClaim := { program := "ytekbgopdeancpaagreatdoor", sum := "9e221e488043ee6b3742411ee211f0efc9b758723be0a4505f842babb6ad8510", func := "appleloft/appleloftkeep.EvictFits", spec := "evictFits", inPlace := ["internal/bytealg.IndexByteString", "internal/bytealg.abigen_runtime_cmpstring"], unfollowed := true, recurses := true, named := ["appleloft/sha.roundConstants"], apart := false, laid := [("appleloft/sha.roundConstants", laid_appleloft_sha_roundConstants)], narrowed := true }
def EvictFitsUptoSaid : Prop := evictFitsUptoRow.holds Tryz.pinned (OpenSpec.upto evictFitsSpec)

/-- 'appleloftkeep.EvictHeld', WHERE WHAT IT READS IS OF BULK AT MOST 1048576: true; the input reads as it did. -/
def evictHeldUptoRow : OpenClaim := { program := "ytekbgopdeancpaagreatdoor", sum := "9e221e488043ee6b3742411ee211f0efc9b758723be0a4505f842babb6ad8510", func := "appleloft/appleloftkeep.EvictHeld", spec := "evictHeld", inPlace := ["internal/bytealg.IndexByteString", "internal/bytealg.abigen_runtime_cmpstring"], unfollowed := true, recurses := true, named := ["appleloft/sha.roundConstants"], apart := false, laid := [("appleloft/sha.roundConstants", laid_appleloft_sha_roundConstants)], narrowed := true }
def EvictHeldUptoSaid : Prop := evictHeldUptoRow.holds Tryz.pinned (OpenSpec.upto evictHeldSpec)

/-- 'appleloftkeep.EvictAges', WHERE WHAT IT READS IS OF BULK AT MOST 1048576: true; the input reads as it did. -/
def evictAgesUptoRow : OpenClaim := { program := "ytekbgopdeancpaagreatdoor", sum := "9e221e488043ee6b3742411ee211f0efc9b758723be0a4505f842babb6ad8510", func := "appleloft/appleloftkeep.EvictAges", spec := "evictAges", inPlace := ["internal/bytealg.IndexByteString", "internal/bytealg.abigen_runtime_cmpstring"], unfollowed := true, recurses := true, named := ["appleloft/sha.roundConstants"], apart := false, laid := [("appleloft/sha.roundConstants", laid_appleloft_sha_roundConstants)], narrowed := true }
def EvictAgesUptoSaid : Prop := evictAgesUptoRow.holds Tryz.pinned (OpenSpec.upto evictAgesSpec)

/-- 'appleloftkeep.EvictTwice', WHERE WHAT IT READS IS OF BULK AT MOST 1048576: true; the input reads as it did. -/
def evictTwiceUptoRow : OpenClaim := { program := "ytekbgopdeancpaagreatdoor", sum := "9e221e488043ee6b3742411ee211f0efc9b758723be0a4505f842babb6ad8510", func := "appleloft/appleloftkeep.EvictTwice", spec := "evictTwice", inPlace := ["internal/bytealg.IndexByteString", "internal/bytealg.abigen_runtime_cmpstring"], unfollowed := true, recurses := true, named := ["appleloft/sha.roundConstants"], apart := false, laid := [("appleloft/sha.roundConstants", laid_appleloft_sha_roundConstants)], narrowed := true }
def EvictTwiceUptoSaid : Prop := evictTwiceUptoRow.holds Tryz.pinned (OpenSpec.upto evictTwiceSpec)

/-- 'appleloftkeep.EvictMore', WHERE WHAT IT READS IS OF BULK AT MOST 1048576: true; the input reads as it did. -/
def evictMoreUptoRow : OpenClaim := { program := "ytekbgopdeancpaagreatdoor", sum := "9e221e488043ee6b3742411ee211f0efc9b758723be0a4505f842babb6ad8510", func := "appleloft/appleloftkeep.EvictMore", spec := "evictMore", inPlace := ["internal/bytealg.IndexByteString", "internal/bytealg.abigen_runtime_cmpstring"], unfollowed := true, recurses := true, named := ["appleloft/sha.roundConstants"], apart := false, laid := [("appleloft/sha.roundConstants", laid_appleloft_sha_roundConstants)], narrowed := true }
def EvictMoreUptoSaid : Prop := evictMoreUptoRow.holds Tryz.pinned (OpenSpec.upto evictMoreSpec)

end Rows
end Go.Proofs.YtekbgopdeancpaaGreatDoor
