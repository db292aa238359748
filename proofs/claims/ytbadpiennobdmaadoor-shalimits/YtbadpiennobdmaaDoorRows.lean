/-
  NARROWER THAN 'FOR EVERY INPUT', by the rows' own cells (each row's printed sentence says how): ShaSteps: laid · ShaSums: laid · ShaPadded: laid · ShaChains: laid · ShaKnown: laid · ShaLimits: laid.
  DERIVED. THE GIVEN ROWS OF THIS SEAT. 6 by the template 'for every input the law returns true; each argument reads behind the call as it read before'; 0 by the template 'total and deterministic' (their statements: YtbadpiennobdmaaDoorTotals.lean).
  GIVEN WITH THE SEED: the statements are not yours to turn. If you find one false, say at which input.
  Laid BY PROGRAM, IN A SANDBOX (cutbox-rows.mjs): the forced cells as the released guide's own fill.sh prints them over the translation 0119d0d203ef5b7a… (all of the seat's roots in one cut). By AI agents, Wed Nov 11 2026. No macro, syntax, notation, axiom, sorry.
-/
import Derived.Test.YtbadpiennobdmaaDoorChecked
import GoSem.PinnedTables
import GoSem.Claim
import GoSem.ClaimJoined
import GoSem.ClaimMapViews
import Derived.JoinedTies
import Derived.KernelRfl
namespace Go.Proofs.YtbadpiennobdmaaDoor
/- THE CELL 'sum', in the pinned program and in every row, IS THE sha256 OF THE DUMP (.gsa) THAT YtbadpiennobdmaaDoorProg.lean LOADS. Nothing in Lean hashes anything: it is a label: what it is worth is what the hold of that sum in a sandbox is worth. -/
noncomputable def Tryd.pinned : Pinned := { name := "ytbadpiennobdmaadoor", sum := "0119d0d203ef5b7a3b4232eff4447fd52bef46e09ef162572c7fdd56c471aac5", checked := Tryd.checked }
namespace Rows
def none {H : Type} : Left H := { results := [], args := [] }

/- WHAT THE LISTED PACKAGE-LEVEL VARIABLES READ AS WHEN THE CALL BEGINS. Each datum BY PROGRAM (the guide's laid-datum.mjs) off the statement by which the dump's own 'gosem.cut.vars' lays the variable. In a bare row this is a premise. The card (YtbadpiennobdmaaDoorCards.lean) ties it to the program's text. -/
def laid_appleloft_sha_roundConstants {H : Type} : DataW H := .agg [.lit (.int .u32 1116352408), .lit (.int .u32 1899447441), .lit (.int .u32 3049323471), .lit (.int .u32 3921009573), .lit (.int .u32 961987163), .lit (.int .u32 1508970993), .lit (.int .u32 2453635748), .lit (.int .u32 2870763221), .lit (.int .u32 3624381080), .lit (.int .u32 310598401), .lit (.int .u32 607225278), .lit (.int .u32 1426881987), .lit (.int .u32 1925078388), .lit (.int .u32 2162078206), .lit (.int .u32 2614888103), .lit (.int .u32 3248222580), .lit (.int .u32 3835390401), .lit (.int .u32 4022224774), .lit (.int .u32 264347078), .lit (.int .u32 604807628), .lit (.int .u32 770255983), .lit (.int .u32 1249150122), .lit (.int .u32 1555081692), .lit (.int .u32 1996064986), .lit (.int .u32 2554220882), .lit (.int .u32 2821834349), .lit (.int .u32 2952996808), .lit (.int .u32 3210313671), .lit (.int .u32 3336571891), .lit (.int .u32 3584528711), .lit (.int .u32 113926993), .lit (.int .u32 338241895), .lit (.int .u32 666307205), .lit (.int .u32 773529912), .lit (.int .u32 1294757372), .lit (.int .u32 1396182291), .lit (.int .u32 1695183700), .lit (.int .u32 1986661051), .lit (.int .u32 2177026350), .lit (.int .u32 2456956037), .lit (.int .u32 2730485921), .lit (.int .u32 2820302411), .lit (.int .u32 3259730800), .lit (.int .u32 3345764771), .lit (.int .u32 3516065817), .lit (.int .u32 3600352804), .lit (.int .u32 4094571909), .lit (.int .u32 275423344), .lit (.int .u32 430227734), .lit (.int .u32 506948616), .lit (.int .u32 659060556), .lit (.int .u32 883997877), .lit (.int .u32 958139571), .lit (.int .u32 1322822218), .lit (.int .u32 1537002063), .lit (.int .u32 1747873779), .lit (.int .u32 1955562222), .lit (.int .u32 2024104815), .lit (.int .u32 2227730452), .lit (.int .u32 2361852424), .lit (.int .u32 2428436474), .lit (.int .u32 2756734187), .lit (.int .u32 3204031479), .lit (.int .u32 3329325298)]
def laid_unicode_utf8_acceptRanges {H : Type} : DataW H := .agg [.agg [.lit (.int .u8 128), .lit (.int .u8 191)], .agg [.lit (.int .u8 160), .lit (.int .u8 191)], .agg [.lit (.int .u8 128), .lit (.int .u8 159)], .agg [.lit (.int .u8 144), .lit (.int .u8 191)], .agg [.lit (.int .u8 128), .lit (.int .u8 143)], .agg [.lit (.int .u8 0), .lit (.int .u8 0)], .agg [.lit (.int .u8 0), .lit (.int .u8 0)], .agg [.lit (.int .u8 0), .lit (.int .u8 0)], .agg [.lit (.int .u8 0), .lit (.int .u8 0)], .agg [.lit (.int .u8 0), .lit (.int .u8 0)], .agg [.lit (.int .u8 0), .lit (.int .u8 0)], .agg [.lit (.int .u8 0), .lit (.int .u8 0)], .agg [.lit (.int .u8 0), .lit (.int .u8 0)], .agg [.lit (.int .u8 0), .lit (.int .u8 0)], .agg [.lit (.int .u8 0), .lit (.int .u8 0)], .agg [.lit (.int .u8 0), .lit (.int .u8 0)]]
/-- One of Go's own tables, pinned by name: the form's constant. -/
def laid_unicode_utf8_first : DataW Unit := Go.Pinned.utf8First

/-- 'appleloftlaw.ShaSteps': WHATEVER THE INPUT: true; the input reads as it did. -/
def shaStepsSpec : ChangeSpec := { name := "shaSteps", fn := fun _ => fun
  | [d1, d2] => { results := [.lit (.bool true)], args := [d1, d2] }
  | _ => none }
def shaStepsRow : OpenClaim := { program := "ytbadpiennobdmaadoor", sum := "0119d0d203ef5b7a3b4232eff4447fd52bef46e09ef162572c7fdd56c471aac5", func := "appleloft/appleloftlaw.ShaSteps", spec := "shaSteps", inPlace := ["math/bits.Add64"], named := ["appleloft/sha.roundConstants"], apart := false, laid := [("appleloft/sha.roundConstants", laid_appleloft_sha_roundConstants)] }
def ShaStepsSaid : Prop := shaStepsRow.holds Tryd.pinned (OpenSpec.ofChange shaStepsSpec)

/-- ITS FALSE NEIGHBOUR: 'it returns false'. Refute it at one input. -/
def shaStepsWrong : ChangeSpec := { name := "shaSteps", fn := fun _ => fun
  | [d1, d2] => { results := [.lit (.bool false)], args := [d1, d2] }
  | _ => none }
def ShaStepsWrongFalsely : Prop := shaStepsRow.holds Tryd.pinned (OpenSpec.ofChange shaStepsWrong)

/-- 'appleloftlaw.ShaSums': WHATEVER THE INPUT: true; the input reads as it did. -/
def shaSumsSpec : ChangeSpec := { name := "shaSums", fn := fun _ => fun
  | [d] => { results := [.lit (.bool true)], args := [d] }
  | _ => none }
def shaSumsRow : OpenClaim := { program := "ytbadpiennobdmaadoor", sum := "0119d0d203ef5b7a3b4232eff4447fd52bef46e09ef162572c7fdd56c471aac5", func := "appleloft/appleloftlaw.ShaSums", spec := "shaSums", named := ["appleloft/sha.roundConstants"], apart := false, laid := [("appleloft/sha.roundConstants", laid_appleloft_sha_roundConstants)] }
def ShaSumsSaid : Prop := shaSumsRow.holds Tryd.pinned (OpenSpec.ofChange shaSumsSpec)

/-- ITS FALSE NEIGHBOUR: 'it returns false'. Refute it at one input. -/
def shaSumsWrong : ChangeSpec := { name := "shaSums", fn := fun _ => fun
  | [d] => { results := [.lit (.bool false)], args := [d] }
  | _ => none }
def ShaSumsWrongFalsely : Prop := shaSumsRow.holds Tryd.pinned (OpenSpec.ofChange shaSumsWrong)

/-- 'appleloftkeep.ShaPadded': WHATEVER THE INPUT: true; the input reads as it did. -/
def shaPaddedSpec : ChangeSpec := { name := "shaPadded", fn := fun _ => fun
  | [d] => { results := [.lit (.bool true)], args := [d] }
  | _ => none }
def shaPaddedRow : OpenClaim := { program := "ytbadpiennobdmaadoor", sum := "0119d0d203ef5b7a3b4232eff4447fd52bef46e09ef162572c7fdd56c471aac5", func := "appleloft/appleloftkeep.ShaPadded", spec := "shaPadded", inPlace := ["internal/bytealg.IndexByteString", "internal/bytealg.IndexString"], named := ["unicode/utf8.first", "unicode/utf8.acceptRanges", "internal/bytealg.MaxLen"], apart := false, laid := [("unicode/utf8.acceptRanges", laid_unicode_utf8_acceptRanges), ("unicode/utf8.first", laid_unicode_utf8_first)] }
def ShaPaddedSaid : Prop := shaPaddedRow.holds Tryd.pinned (OpenSpec.ofChange shaPaddedSpec)

/-- ITS FALSE NEIGHBOUR: 'it returns false'. Refute it at one input. -/
def shaPaddedWrong : ChangeSpec := { name := "shaPadded", fn := fun _ => fun
  | [d] => { results := [.lit (.bool false)], args := [d] }
  | _ => none }
def ShaPaddedWrongFalsely : Prop := shaPaddedRow.holds Tryd.pinned (OpenSpec.ofChange shaPaddedWrong)

/-- 'appleloftkeep.ShaChains': WHATEVER THE INPUT: true; the input reads as it did. -/
def shaChainsSpec : ChangeSpec := { name := "shaChains", fn := fun _ => fun
  | [d] => { results := [.lit (.bool true)], args := [d] }
  | _ => none }
def shaChainsRow : OpenClaim := { program := "ytbadpiennobdmaadoor", sum := "0119d0d203ef5b7a3b4232eff4447fd52bef46e09ef162572c7fdd56c471aac5", func := "appleloft/appleloftkeep.ShaChains", spec := "shaChains", named := ["appleloft/sha.roundConstants"], apart := false, laid := [("appleloft/sha.roundConstants", laid_appleloft_sha_roundConstants)] }
def ShaChainsSaid : Prop := shaChainsRow.holds Tryd.pinned (OpenSpec.ofChange shaChainsSpec)

/-- ITS FALSE NEIGHBOUR: 'it returns false'. Refute it at one input. -/
def shaChainsWrong : ChangeSpec := { name := "shaChains", fn := fun _ => fun
  | [d] => { results := [.lit (.bool false)], args := [d] }
  | _ => none }
def ShaChainsWrongFalsely : Prop := shaChainsRow.holds Tryd.pinned (OpenSpec.ofChange shaChainsWrong)

/-- 'appleloftkeep.ShaKnown': WHATEVER THE INPUT: true; the input reads as it did. -/
def shaKnownSpec : ChangeSpec := { name := "shaKnown", fn := fun _ => fun
  | [d] => { results := [.lit (.bool true)], args := [d] }
  | _ => none }
def shaKnownRow : OpenClaim := { program := "ytbadpiennobdmaadoor", sum := "0119d0d203ef5b7a3b4232eff4447fd52bef46e09ef162572c7fdd56c471aac5", func := "appleloft/appleloftkeep.ShaKnown", spec := "shaKnown", named := ["appleloft/sha.roundConstants"], apart := false, laid := [("appleloft/sha.roundConstants", laid_appleloft_sha_roundConstants)] }
def ShaKnownSaid : Prop := shaKnownRow.holds Tryd.pinned (OpenSpec.ofChange shaKnownSpec)

/-- ITS FALSE NEIGHBOUR: 'it returns false'. Refute it at one input. -/
def shaKnownWrong : ChangeSpec := { name := "shaKnown", fn := fun _ => fun
  | [d] => { results := [.lit (.bool false)], args := [d] }
  | _ => none }
def ShaKnownWrongFalsely : Prop := shaKnownRow.holds Tryd.pinned (OpenSpec.ofChange shaKnownWrong)

/-- 'appleloftkeep.ShaLimits': WHATEVER THE INPUT: true; the input reads as it did. -/
def shaLimitsSpec : ChangeSpec := { name := "shaLimits", fn := fun _ => fun
  | [d1, d2] => { results := [.lit (.bool true)], args := [d1, d2] }
  | _ => none }
def shaLimitsRow : OpenClaim := { program := "ytbadpiennobdmaadoor", sum := "0119d0d203ef5b7a3b4232eff4447fd52bef46e09ef162572c7fdd56c471aac5", func := "appleloft/appleloftkeep.ShaLimits", spec := "shaLimits", named := ["appleloft/sha.roundConstants"], apart := false, laid := [("appleloft/sha.roundConstants", laid_appleloft_sha_roundConstants)] }
def ShaLimitsSaid : Prop := shaLimitsRow.holds Tryd.pinned (OpenSpec.ofChange shaLimitsSpec)

/-- ITS FALSE NEIGHBOUR: 'it returns false'. Refute it at one input. -/
def shaLimitsWrong : ChangeSpec := { name := "shaLimits", fn := fun _ => fun
  | [d1, d2] => { results := [.lit (.bool false)], args := [d1, d2] }
  | _ => none }
def ShaLimitsWrongFalsely : Prop := shaLimitsRow.holds Tryd.pinned (OpenSpec.ofChange shaLimitsWrong)

/- THE SECOND FORM. 'bulk': how many values and letters a reading holds, each counted each time it is reached (what is shared counts as often as it is met; a slice's spare places count too). A statement '..UptoSaid' is the law's where the arguments, and the package variables that the reading takes, are together of bulk at most 1048576: NARROWER than '..Said'. Prove '..Said' where nothing that the law and all that it calls make is longer than what came in: it says more and counts as full. Else prove '..UptoSaid'. A law counts once. -/
mutual
def uptoBulk {H : Type} : DataW H → Nat
  | .lit (.string bytes) => bytes.length + 1
  | .lit _ => 1
  | .nil => 1
  | .ptr d => uptoBulk d + 1
  | .slice elems spare => uptoBulkAll elems + uptoBulkAll spare + 1
  | .agg parts => uptoBulkAll parts + 1
  | .iface _ d => uptoBulk d + 1
  | .map entries => uptoBulkEntries entries + 1
  | .held _ => 1
def uptoBulkAll {H : Type} : List (DataW H) → Nat
  | [] => 0
  | d :: r => uptoBulk d + uptoBulkAll r
def uptoBulkEntries {H : Type} : List (Lit × DataW H) → Nat
  | [] => 0
  | x :: r => uptoBulkEntry x + uptoBulkEntries r
def uptoBulkEntry {H : Type} : Lit × DataW H → Nat
  | (.string bytes, d) => bytes.length + uptoBulk d + 1
  | (_, d) => uptoBulk d + 1
 end
def uptoSmall : (H : Type) → List (DataW H) → Bool := fun _ ds => decide (uptoBulkAll ds ≤ 1048576)
def OpenSpec.upto (s : _root_.Go.ChangeSpec) : _root_.Go.OpenSpec := { _root_.Go.OpenSpec.ofChange s with cond := some uptoSmall }

/-- 'appleloftlaw.ShaSteps', WHERE WHAT IT READS IS OF BULK AT MOST 1048576: true; the input reads as it did. -/
def shaStepsUptoRow : OpenClaim := { program := "ytbadpiennobdmaadoor", sum := "0119d0d203ef5b7a3b4232eff4447fd52bef46e09ef162572c7fdd56c471aac5", func := "appleloft/appleloftlaw.ShaSteps", spec := "shaSteps", inPlace := ["math/bits.Add64"], named := ["appleloft/sha.roundConstants"], apart := false, laid := [("appleloft/sha.roundConstants", laid_appleloft_sha_roundConstants)], narrowed := true }
def ShaStepsUptoSaid : Prop := shaStepsUptoRow.holds Tryd.pinned (OpenSpec.upto shaStepsSpec)

/-- 'appleloftlaw.ShaSums', WHERE WHAT IT READS IS OF BULK AT MOST 1048576: true; the input reads as it did. -/
def shaSumsUptoRow : OpenClaim := { program := "ytbadpiennobdmaadoor", sum := "0119d0d203ef5b7a3b4232eff4447fd52bef46e09ef162572c7fdd56c471aac5", func := "appleloft/appleloftlaw.ShaSums", spec := "shaSums", named := ["appleloft/sha.roundConstants"], apart := false, laid := [("appleloft/sha.roundConstants", laid_appleloft_sha_roundConstants)], narrowed := true }
def ShaSumsUptoSaid : Prop := shaSumsUptoRow.holds Tryd.pinned (OpenSpec.upto shaSumsSpec)

/-- 'appleloftkeep.ShaPadded', WHERE WHAT IT READS IS OF BULK AT MOST 1048576: true; the input reads as it did. -/
def shaPaddedUptoRow : OpenClaim := { program := "ytbadpiennobdmaadoor", sum := "0119d0d203ef5b7a3b4232eff4447fd52bef46e09ef162572c7fdd56c471aac5", func := "appleloft/appleloftkeep.ShaPadded", spec := "shaPadded", inPlace := ["internal/bytealg.IndexByteString", "internal/bytealg.IndexString"], named := ["unicode/utf8.first", "unicode/utf8.acceptRanges", "internal/bytealg.MaxLen"], apart := false, laid := [("unicode/utf8.acceptRanges", laid_unicode_utf8_acceptRanges), ("unicode/utf8.first", laid_unicode_utf8_first)], narrowed := true }
def ShaPaddedUptoSaid : Prop := shaPaddedUptoRow.holds Tryd.pinned (OpenSpec.upto shaPaddedSpec)

/-- 'appleloftkeep.ShaChains', WHERE WHAT IT READS IS OF BULK AT MOST 1048576: true; the input reads as it did. -/
def shaChainsUptoRow : OpenClaim := { program := "ytbadpiennobdmaadoor", sum := "0119d0d203ef5b7a3b4232eff4447fd52bef46e09ef162572c7fdd56c471aac5", func := "appleloft/appleloftkeep.ShaChains", spec := "shaChains", named := ["appleloft/sha.roundConstants"], apart := false, laid := [("appleloft/sha.roundConstants", laid_appleloft_sha_roundConstants)], narrowed := true }
def ShaChainsUptoSaid : Prop := shaChainsUptoRow.holds Tryd.pinned (OpenSpec.upto shaChainsSpec)

/-- 'appleloftkeep.ShaKnown', WHERE WHAT IT READS IS OF BULK AT MOST 1048576: true; the input reads as it did. -/
def shaKnownUptoRow : OpenClaim := { program := "ytbadpiennobdmaadoor", sum := "0119d0d203ef5b7a3b4232eff4447fd52bef46e09ef162572c7fdd56c471aac5", func := "appleloft/appleloftkeep.ShaKnown", spec := "shaKnown", named := ["appleloft/sha.roundConstants"], apart := false, laid := [("appleloft/sha.roundConstants", laid_appleloft_sha_roundConstants)], narrowed := true }
def ShaKnownUptoSaid : Prop := shaKnownUptoRow.holds Tryd.pinned (OpenSpec.upto shaKnownSpec)

/-- 'appleloftkeep.ShaLimits', WHERE WHAT IT READS IS OF BULK AT MOST 1048576: true; the input reads as it did. -/
def shaLimitsUptoRow : OpenClaim := { program := "ytbadpiennobdmaadoor", sum := "0119d0d203ef5b7a3b4232eff4447fd52bef46e09ef162572c7fdd56c471aac5", func := "appleloft/appleloftkeep.ShaLimits", spec := "shaLimits", named := ["appleloft/sha.roundConstants"], apart := false, laid := [("appleloft/sha.roundConstants", laid_appleloft_sha_roundConstants)], narrowed := true }
def ShaLimitsUptoSaid : Prop := shaLimitsUptoRow.holds Tryd.pinned (OpenSpec.upto shaLimitsSpec)

end Rows
end Go.Proofs.YtbadpiennobdmaaDoor
