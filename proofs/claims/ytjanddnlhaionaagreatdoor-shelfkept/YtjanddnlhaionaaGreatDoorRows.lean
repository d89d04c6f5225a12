/-
  NARROWER THAN 'FOR EVERY INPUT', by the rows' own cells (each row's printed sentence says how): ObjectPuts: laid · ObjectTakes: loops, laid · ShelfPlays: loops, laid · ShelfKept: loops, laid · ShelfIds: laid · ShelfNil: laid.
  DERIVED. THE GIVEN ROWS OF THIS SEAT. 6 by the template 'for every input the law returns true; each argument reads behind the call as it read before'; 0 by the template 'total and deterministic' (their statements: YtjanddnlhaionaaGreatDoorTotals.lean).
  GIVEN WITH THE SEED: the statements are not yours to turn. If you find one false, say at which input.
  Laid BY PROGRAM, IN A SANDBOX (cutbox-rows.mjs): the forced cells as the released guide's own fill.sh prints them over the translation 27bc8554a2936557… (all of the seat's roots in one cut). By AI agents, Wed Nov 11 2026. No macro, syntax, notation, axiom, sorry.
-/
import Derived.Test.YtjanddnlhaionaaGreatDoorChecked
import GoSem.PinnedTables
import GoSem.Claim
import GoSem.ClaimJoined
import GoSem.ClaimMapViews
import Derived.JoinedTies
import Derived.KernelRfl
namespace Go.Proofs.YtjanddnlhaionaaGreatDoor
/- THE CELL 'sum', in the pinned program and in every row, IS THE sha256 OF THE DUMP (.gsa) THAT YtjanddnlhaionaaGreatDoorProg.lean LOADS. Nothing in Lean hashes anything: it is a label: what it is worth is what the hold of that sum in a sandbox is worth. -/
noncomputable def Tryz.pinned : Pinned := { name := "ytjanddnlhaionaagreatdoor", sum := "27bc8554a2936557f01b185f4f04bc393b4d3cbfd843bec44a2ddb1b20ca4e33", checked := Tryz.checked }
namespace Rows
def none {H : Type} : Left H := { results := [], args := [] }

/- WHAT THE LISTED PACKAGE-LEVEL VARIABLES READ AS WHEN THE CALL BEGINS. Each datum BY PROGRAM (the guide's laid-datum.mjs) off the statement by which the dump's own 'gosem.cut.vars' lays the variable. In a bare row this is a premise. The card (YtjanddnlhaionaaGreatDoorCards.lean) ties it to the program's text. -/
def laid_fasti_digest_initial {H : Type} : DataW H := .agg [.lit (.int .u32 1779033703), .lit (.int .u32 3144134277), .lit (.int .u32 1013904242), .lit (.int .u32 2773480762), .lit (.int .u32 1359893119), .lit (.int .u32 2600822924), .lit (.int .u32 528734635), .lit (.int .u32 1541459225)]
def laid_fasti_digest_roundKeys {H : Type} : DataW H := .agg [.lit (.int .u32 1116352408), .lit (.int .u32 1899447441), .lit (.int .u32 3049323471), .lit (.int .u32 3921009573), .lit (.int .u32 961987163), .lit (.int .u32 1508970993), .lit (.int .u32 2453635748), .lit (.int .u32 2870763221), .lit (.int .u32 3624381080), .lit (.int .u32 310598401), .lit (.int .u32 607225278), .lit (.int .u32 1426881987), .lit (.int .u32 1925078388), .lit (.int .u32 2162078206), .lit (.int .u32 2614888103), .lit (.int .u32 3248222580), .lit (.int .u32 3835390401), .lit (.int .u32 4022224774), .lit (.int .u32 264347078), .lit (.int .u32 604807628), .lit (.int .u32 770255983), .lit (.int .u32 1249150122), .lit (.int .u32 1555081692), .lit (.int .u32 1996064986), .lit (.int .u32 2554220882), .lit (.int .u32 2821834349), .lit (.int .u32 2952996808), .lit (.int .u32 3210313671), .lit (.int .u32 3336571891), .lit (.int .u32 3584528711), .lit (.int .u32 113926993), .lit (.int .u32 338241895), .lit (.int .u32 666307205), .lit (.int .u32 773529912), .lit (.int .u32 1294757372), .lit (.int .u32 1396182291), .lit (.int .u32 1695183700), .lit (.int .u32 1986661051), .lit (.int .u32 2177026350), .lit (.int .u32 2456956037), .lit (.int .u32 2730485921), .lit (.int .u32 2820302411), .lit (.int .u32 3259730800), .lit (.int .u32 3345764771), .lit (.int .u32 3516065817), .lit (.int .u32 3600352804), .lit (.int .u32 4094571909), .lit (.int .u32 275423344), .lit (.int .u32 430227734), .lit (.int .u32 506948616), .lit (.int .u32 659060556), .lit (.int .u32 883997877), .lit (.int .u32 958139571), .lit (.int .u32 1322822218), .lit (.int .u32 1537002063), .lit (.int .u32 1747873779), .lit (.int .u32 1955562222), .lit (.int .u32 2024104815), .lit (.int .u32 2227730452), .lit (.int .u32 2361852424), .lit (.int .u32 2428436474), .lit (.int .u32 2756734187), .lit (.int .u32 3204031479), .lit (.int .u32 3329325298)]
def laid_unicode_utf8_acceptRanges {H : Type} : DataW H := .agg [.agg [.lit (.int .u8 128), .lit (.int .u8 191)], .agg [.lit (.int .u8 160), .lit (.int .u8 191)], .agg [.lit (.int .u8 128), .lit (.int .u8 159)], .agg [.lit (.int .u8 144), .lit (.int .u8 191)], .agg [.lit (.int .u8 128), .lit (.int .u8 143)], .agg [.lit (.int .u8 0), .lit (.int .u8 0)], .agg [.lit (.int .u8 0), .lit (.int .u8 0)], .agg [.lit (.int .u8 0), .lit (.int .u8 0)], .agg [.lit (.int .u8 0), .lit (.int .u8 0)], .agg [.lit (.int .u8 0), .lit (.int .u8 0)], .agg [.lit (.int .u8 0), .lit (.int .u8 0)], .agg [.lit (.int .u8 0), .lit (.int .u8 0)], .agg [.lit (.int .u8 0), .lit (.int .u8 0)], .agg [.lit (.int .u8 0), .lit (.int .u8 0)], .agg [.lit (.int .u8 0), .lit (.int .u8 0)], .agg [.lit (.int .u8 0), .lit (.int .u8 0)]]
/-- One of Go's own tables, pinned by name: the form's constant. -/
def laid_unicode_utf8_first : DataW Unit := Go.Pinned.utf8First

/-- 'fastilaw07.ObjectPuts': WHATEVER THE INPUT: true; the input reads as it did. -/
def objectPutsSpec : ChangeSpec := { name := "objectPuts", fn := fun _ => fun
  | [d] => { results := [.lit (.bool true)], args := [d] }
  | _ => none }
def objectPutsRow : OpenClaim := { program := "ytjanddnlhaionaagreatdoor", sum := "27bc8554a2936557f01b185f4f04bc393b4d3cbfd843bec44a2ddb1b20ca4e33", func := "fasti/fastilaw07.ObjectPuts", spec := "objectPuts", unfollowed := true, recurses := true, named := ["fasti/digest.initial", "fasti/digest.roundKeys"], apart := false, laid := [("fasti/digest.initial", laid_fasti_digest_initial), ("fasti/digest.roundKeys", laid_fasti_digest_roundKeys)] }
def ObjectPutsSaid : Prop := objectPutsRow.holds Tryz.pinned (OpenSpec.ofChange objectPutsSpec)

/-- ITS FALSE NEIGHBOUR: 'it returns false'. Refute it at one input. -/
def objectPutsWrong : ChangeSpec := { name := "objectPuts", fn := fun _ => fun
  | [d] => { results := [.lit (.bool false)], args := [d] }
  | _ => none }
def ObjectPutsWrongFalsely : Prop := objectPutsRow.holds Tryz.pinned (OpenSpec.ofChange objectPutsWrong)

/-- 'fastilaw07.ObjectTakes': WHATEVER THE INPUT: true; the input reads as it did. -/
def objectTakesSpec : ChangeSpec := { name := "objectTakes", fn := fun _ => fun
  | [d1, d2] => { results := [.lit (.bool true)], args := [d1, d2] }
  | _ => none }
def objectTakesRow : OpenClaim := { program := "ytjanddnlhaionaagreatdoor", sum := "27bc8554a2936557f01b185f4f04bc393b4d3cbfd843bec44a2ddb1b20ca4e33", func := "fasti/fastilaw07.ObjectTakes", spec := "objectTakes", unfollowed := true, recurses := true, named := ["fasti/digest.initial", "fasti/digest.roundKeys"], loops := true, apart := false, laid := [("fasti/digest.initial", laid_fasti_digest_initial), ("fasti/digest.roundKeys", laid_fasti_digest_roundKeys)] }
def ObjectTakesSaid : Prop := objectTakesRow.holds Tryz.pinned (OpenSpec.ofChange objectTakesSpec)

/-- ITS FALSE NEIGHBOUR: 'it returns false'. Refute it at one input. -/
def objectTakesWrong : ChangeSpec := { name := "objectTakes", fn := fun _ => fun
  | [d1, d2] => { results := [.lit (.bool false)], args := [d1, d2] }
  | _ => none }
def ObjectTakesWrongFalsely : Prop := objectTakesRow.holds Tryz.pinned (OpenSpec.ofChange objectTakesWrong)

/-- 'fastilaw08.ShelfPlays': WHATEVER THE INPUT: true; the input reads as it did. -/
def shelfPlaysSpec : ChangeSpec := { name := "shelfPlays", fn := fun _ => fun
  | [d1, d2] => { results := [.lit (.bool true)], args := [d1, d2] }
  | _ => none }
def shelfPlaysRow : OpenClaim := { program := "ytjanddnlhaionaagreatdoor", sum := "27bc8554a2936557f01b185f4f04bc393b4d3cbfd843bec44a2ddb1b20ca4e33", func := "fasti/fastilaw08.ShelfPlays", spec := "shelfPlays", inPlace := ["internal/bytealg.IndexByteString", "internal/bytealg.IndexString"], unfollowed := true, recurses := true, named := ["unicode/utf8.first", "unicode/utf8.acceptRanges", "fasti/digest.initial", "fasti/digest.roundKeys", "internal/bytealg.MaxLen"], loops := true, apart := false, laid := [("fasti/digest.initial", laid_fasti_digest_initial), ("fasti/digest.roundKeys", laid_fasti_digest_roundKeys), ("unicode/utf8.acceptRanges", laid_unicode_utf8_acceptRanges), ("unicode/utf8.first", laid_unicode_utf8_first)] }
def ShelfPlaysSaid : Prop := shelfPlaysRow.holds Tryz.pinned (OpenSpec.ofChange shelfPlaysSpec)

/-- ITS FALSE NEIGHBOUR: 'it returns false'. Refute it at one input. -/
def shelfPlaysWrong : ChangeSpec := { name := "shelfPlays", fn := fun _ => fun
  | [d1, d2] => { results := [.lit (.bool false)], args := [d1, d2] }
  | _ => none }
def ShelfPlaysWrongFalsely : Prop := shelfPlaysRow.holds Tryz.pinned (OpenSpec.ofChange shelfPlaysWrong)

/-- 'fastilaw08.ShelfKept': WHATEVER THE INPUT: true; the input reads as it did. -/
def shelfKeptSpec : ChangeSpec := { name := "shelfKept", fn := fun _ => fun
  | [d1, d2] => { results := [.lit (.bool true)], args := [d1, d2] }
  | _ => none }
def shelfKeptRow : OpenClaim := { program := "ytjanddnlhaionaagreatdoor", sum := "27bc8554a2936557f01b185f4f04bc393b4d3cbfd843bec44a2ddb1b20ca4e33", func := "fasti/fastilaw08.ShelfKept", spec := "shelfKept", inPlace := ["internal/bytealg.IndexByteString", "internal/bytealg.IndexString"], unfollowed := true, recurses := true, named := ["unicode/utf8.first", "unicode/utf8.acceptRanges", "fasti/digest.initial", "fasti/digest.roundKeys", "internal/bytealg.MaxLen"], loops := true, apart := false, laid := [("fasti/digest.initial", laid_fasti_digest_initial), ("fasti/digest.roundKeys", laid_fasti_digest_roundKeys), ("unicode/utf8.acceptRanges", laid_unicode_utf8_acceptRanges), ("unicode/utf8.first", laid_unicode_utf8_first)] }
def ShelfKeptSaid : Prop := shelfKeptRow.holds Tryz.pinned (OpenSpec.ofChange shelfKeptSpec)

/-- ITS FALSE NEIGHBOUR: 'it returns false'. Refute it at one input. -/
def shelfKeptWrong : ChangeSpec := { name := "shelfKept", fn := fun _ => fun
  | [d1, d2] => { results := [.lit (.bool false)], args := [d1, d2] }
  | _ => none }
def ShelfKeptWrongFalsely : Prop := shelfKeptRow.holds Tryz.pinned (OpenSpec.ofChange shelfKeptWrong)

/-- 'fastilaw08.ShelfIds': WHATEVER THE INPUT: true; the input reads as it did. -/
def shelfIdsSpec : ChangeSpec := { name := "shelfIds", fn := fun _ => fun
  | [d] => { results := [.lit (.bool true)], args := [d] }
  | _ => none }
def shelfIdsRow : OpenClaim := { program := "ytjanddnlhaionaagreatdoor", sum := "27bc8554a2936557f01b185f4f04bc393b4d3cbfd843bec44a2ddb1b20ca4e33", func := "fasti/fastilaw08.ShelfIds", spec := "shelfIds", inPlace := ["internal/bytealg.IndexByteString", "internal/bytealg.IndexString"], unfollowed := true, recurses := true, named := ["unicode/utf8.first", "unicode/utf8.acceptRanges", "fasti/digest.initial", "fasti/digest.roundKeys", "internal/bytealg.MaxLen"], apart := false, laid := [("fasti/digest.initial", laid_fasti_digest_initial), ("fasti/digest.roundKeys", laid_fasti_digest_roundKeys), ("unicode/utf8.acceptRanges", laid_unicode_utf8_acceptRanges), ("unicode/utf8.first", laid_unicode_utf8_first)] }
def ShelfIdsSaid : Prop := shelfIdsRow.holds Tryz.pinned (OpenSpec.ofChange shelfIdsSpec)

/-- ITS FALSE NEIGHBOUR: 'it returns false'. Refute it at one input. -/
def shelfIdsWrong : ChangeSpec := { name := "shelfIds", fn := fun _ => fun
  | [d] => { results := [.lit (.bool false)], args := [d] }
  | _ => none }
def ShelfIdsWrongFalsely : Prop := shelfIdsRow.holds Tryz.pinned (OpenSpec.ofChange shelfIdsWrong)

/-- 'fastilaw08.ShelfNil': WHATEVER THE INPUT: true; the input reads as it did. -/
def shelfNilSpec : ChangeSpec := { name := "shelfNil", fn := fun _ => fun
  | [d1, d2, d3] => { results := [.lit (.bool true)], args := [d1, d2, d3] }
  | _ => none }
def shelfNilRow : OpenClaim := { program := "ytjanddnlhaionaagreatdoor", sum := "27bc8554a2936557f01b185f4f04bc393b4d3cbfd843bec44a2ddb1b20ca4e33", func := "fasti/fastilaw08.ShelfNil", spec := "shelfNil", inPlace := ["internal/bytealg.IndexByteString", "internal/bytealg.IndexString"], unfollowed := true, recurses := true, named := ["unicode/utf8.first", "unicode/utf8.acceptRanges", "fasti/digest.initial", "fasti/digest.roundKeys", "internal/bytealg.MaxLen"], apart := false, laid := [("fasti/digest.initial", laid_fasti_digest_initial), ("fasti/digest.roundKeys", laid_fasti_digest_roundKeys), ("unicode/utf8.acceptRanges", laid_unicode_utf8_acceptRanges), ("unicode/utf8.first", laid_unicode_utf8_first)] }
def ShelfNilSaid : Prop := shelfNilRow.holds Tryz.pinned (OpenSpec.ofChange shelfNilSpec)

/-- ITS FALSE NEIGHBOUR: 'it returns false'. Refute it at one input. -/
def shelfNilWrong : ChangeSpec := { name := "shelfNil", fn := fun _ => fun
  | [d1, d2, d3] => { results := [.lit (.bool false)], args := [d1, d2, d3] }
  | _ => none }
def ShelfNilWrongFalsely : Prop := shelfNilRow.holds Tryz.pinned (OpenSpec.ofChange shelfNilWrong)

/- THE SECOND FORM. 'bulk': how many values and letters a reading holds, each counted each time it is reached (what is shared counts as often as it is met; a slice's spare places count too). A statement '..UptoSaid' is the law's where the arguments, and the package variables that the reading takes, are together of bulk at most 1048576: NARROWER than '..Said'. Prove '..Said' where nothing that the law and all that it calls make is longer than what came in: it says more and counts as full. Else prove '..UptoSaid'. A law counts once. -/
mutual
def uptoBulk {H : Type} : DataW H → Nat
  | .lit (.string bytes) => bytes.length + 1
  | .lit _ => 1
  | .nil => 1
  | .ptr d => uptoBulk d + 1
  | .slice elems spare => uptoBulkAll elems + uptoBulkAll spare + 1
  | .agg parts => uptoBulkAll parts + 1
  | .iface _ d => uptoBulk d + 1
  | .map entries => uptoBulkEntries entries + 1
  | .held _ => 1
def uptoBulkAll {H : Type} : List (DataW H) → Nat
  | [] => 0
  | d :: r => uptoBulk d + uptoBulkAll r
def uptoBulkEntries {H : Type} : List (Lit × DataW H) → Nat
  | [] => 0
  | x :: r => uptoBulkEntry x + uptoBulkEntries r
def uptoBulkEntry {H : Type} : Lit × DataW H → Nat
  | (.string bytes, d) => bytes.length + uptoBulk d + 1
  | (_, d) => uptoBulk d + 1
 end
def uptoSmall : (H : Type) → List (DataW H) → Bool := fun _ ds => decide (uptoBulkAll ds ≤ 1048576)
def OpenSpec.upto (s : _root_.Go.ChangeSpec) : _root_.Go.OpenSpec := { _root_.Go.OpenSpec.ofChange s with cond := some uptoSmall }

/-- 'fastilaw07.ObjectPuts', WHERE WHAT IT READS IS OF BULK AT MOST 1048576: true; the input reads as it did. -/
def objectPutsUptoRow : OpenClaim := { program := "ytjanddnlhaionaagreatdoor", sum := "27bc8554a2936557f01b185f4f04bc393b4d3cbfd843bec44a2ddb1b20ca4e33", func := "fasti/fastilaw07.ObjectPuts", spec := "objectPuts", unfollowed := true, recurses := true, named := ["fasti/digest.initial", "fasti/digest.roundKeys"], apart := false, laid := [("fasti/digest.initial", laid_fasti_digest_initial), ("fasti/digest.roundKeys", laid_fasti_digest_roundKeys)], narrowed := true }
def ObjectPutsUptoSaid : Prop := objectPutsUptoRow.holds Tryz.pinned (OpenSpec.upto objectPutsSpec)

/-- 'fastilaw07.ObjectTakes', WHERE WHAT IT READS IS OF BULK AT MOST 1048576: true; the input reads as it did. -/
def objectTakesUptoRow : OpenClaim := { program := "ytjanddnlhaionaagreatdoor", sum := "27bc8554a2936557f01b185f4f04bc393b4d3cbfd843bec44a2ddb1b20ca4e33", func := "fasti/fastilaw07.ObjectTakes", spec := "objectTakes", unfollowed := true, recurses := true, named := ["fasti/digest.initial", "fasti/digest.roundKeys"], loops := true, apart := false, laid := [("fasti/digest.initial", laid_fasti_digest_initial), ("fasti/digest.roundKeys", laid_fasti_digest_roundKeys)], narrowed := true }
def ObjectTakesUptoSaid : Prop := objectTakesUptoRow.holds Tryz.pinned (OpenSpec.upto objectTakesSpec)

/-- 'fastilaw08.ShelfPlays', WHERE WHAT IT READS IS OF BULK AT MOST 1048576: true; the input reads as it did. -/
def shelfPlaysUptoRow : OpenClaim := { program := "ytjanddnlhaionaagreatdoor", sum := "27bc8554a2936557f01b185f4f04bc393b4d3cbfd843bec44a2ddb1b20ca4e33", func := "fasti/fastilaw08.ShelfPlays", spec := "shelfPlays", inPlace := ["internal/bytealg.IndexByteString", "internal/bytealg.IndexString"], unfollowed := true, recurses := true, named := ["unicode/utf8.first", "unicode/utf8.acceptRanges", "fasti/digest.initial", "fasti/digest.roundKeys", "internal/bytealg.MaxLen"], loops := true, apart := false, laid := [("fasti/digest.initial", laid_fasti_digest_initial), ("fasti/digest.roundKeys", laid_fasti_digest_roundKeys), ("unicode/utf8.acceptRanges", laid_unicode_utf8_acceptRanges), ("unicode/utf8.first", laid_unicode_utf8_first)], narrowed := true }
def ShelfPlaysUptoSaid : Prop := shelfPlaysUptoRow.holds Tryz.pinned (OpenSpec.upto shelfPlaysSpec)

/-- 'fastilaw08.ShelfKept', WHERE WHAT IT READS IS OF BULK AT MOST 1048576: true; the input reads as it did. -/
def shelfKeptUptoRow : OpenClaim := { program := "ytjanddnlhaionaagreatdoor", sum := "27bc8554a2936557f01b185f4f04bc393b4d3cbfd843bec44a2ddb1b20ca4e33", func := "fasti/fastilaw08.ShelfKept", spec := "shelfKept", inPlace := ["internal/bytealg.IndexByteString", "internal/bytealg.IndexString"], unfollowed := true, recurses := true, named := ["unicode/utf8.first", "unicode/utf8.acceptRanges", "fasti/digest.initial", "fasti/digest.roundKeys", "internal/bytealg.MaxLen"], loops := true, apart := false, laid := [("fasti/digest.initial", laid_fasti_digest_initial), ("fasti/digest.roundKeys", laid_fasti_digest_roundKeys), ("unicode/utf8.acceptRanges", laid_unicode_utf8_acceptRanges), ("unicode/utf8.first", laid_unicode_utf8_first)], narrowed := true }
def ShelfKeptUptoSaid : Prop := shelfKeptUptoRow.holds Tryz.pinned (OpenSpec.upto shelfKeptSpec)

/-- 'fastilaw08.ShelfIds', WHERE WHAT IT READS IS OF BULK AT MOST 1048576: true; the input reads as it did. -/
def shelfIdsUptoRow : OpenClaim := { program := "ytjanddnlhaionaagreatdoor", sum := "27bc8554a2936557f01b185f4f04bc393b4d3cbfd843bec44a2ddb1b20ca4e33", func := "fasti/fastilaw08.ShelfIds", spec := "shelfIds", inPlace := ["internal/bytealg.IndexByteString", "internal/bytealg.IndexString"], unfollowed := true, recurses := true, named := ["unicode/utf8.first", "unicode/utf8.acceptRanges", "fasti/digest.initial", "fasti/digest.roundKeys", "internal/bytealg.MaxLen"], apart := false, laid := [("fasti/digest.initial", laid_fasti_digest_initial), ("fasti/digest.roundKeys", laid_fasti_digest_roundKeys), ("unicode/utf8.acceptRanges", laid_unicode_utf8_acceptRanges), ("unicode/utf8.first", laid_unicode_utf8_first)], narrowed := true }
def ShelfIdsUptoSaid : Prop := shelfIdsUptoRow.holds Tryz.pinned (OpenSpec.upto shelfIdsSpec)

/-- 'fastilaw08.ShelfNil', WHERE WHAT IT READS IS OF BULK AT MOST 1048576: true; the input reads as it did. -/
def shelfNilUptoRow : OpenClaim := { program := "ytjanddnlhaionaagreatdoor", sum := "27bc8554a2936557f01b185f4f04bc393b4d3cbfd843bec44a2ddb1b20ca4e33", func := "fasti/fastilaw08.ShelfNil", spec := "shelfNil", inPlace := ["internal/bytealg.IndexByteString", "internal/bytealg.IndexString"], unfollowed := true, recurses := true, named := ["unicode/utf8.first", "unicode/utf8.acceptRanges", "fasti/digest.initial", "fasti/digest.roundKeys", "internal/bytealg.MaxLen"], apart := false, laid := [("fasti/digest.initial", laid_fasti_digest_initial), ("fasti/digest.roundKeys", laid_fasti_digest_roundKeys), ("unicode/utf8.acceptRanges", laid_unicode_utf8_acceptRanges), ("unicode/utf8.first", laid_unicode_utf8_first)], narrowed := true }
def ShelfNilUptoSaid : Prop := shelfNilUptoRow.holds Tryz.pinned (OpenSpec.upto shelfNilSpec)

end Rows
end Go.Proofs.YtjanddnlhaionaaGreatDoor
