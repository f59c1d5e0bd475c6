/-
  No cell of these rows narrows 'for every input' (looked for: loops, veiled, ifaces, maps, wideKeys, modest, calm, conditions, laid).
  DERIVED. THE GIVEN ROWS OF THIS SEAT. 15 by the template 'for every input the law returns true; each argument reads behind the call as it read before'; 0 by the template 'total and deterministic' (their statements: YtilankmidkikjaaTotals.lean).
  GIVEN WITH THE SEED: the statements are not yours to turn. If you find one false, say at which input.
  Laid BY PROGRAM, IN A SANDBOX (cutbox-rows.mjs): the forced cells as the released guide's own fill.sh prints them over the translation 1386dc6d83ebac6a… (all of the seat's roots in one cut). By AI agents, Wed Nov 11 2026. No macro, syntax, notation, axiom, sorry.
-/
import Derived.Test.YtilankmidkikjaaChecked
import GoSem.Claim
import GoSem.ClaimJoined
import GoSem.ClaimMapViews
import Derived.JoinedTies
import Derived.KernelRfl
namespace Go.Proofs.Ytilankmidkikjaa
/- THE CELL 'sum', in the pinned program and in every row, IS THE sha256 OF THE DUMP (.gsa) THAT YtilankmidkikjaaProg.lean LOADS. Nothing in Lean hashes anything: it is a label: what it is worth is what the hold of that sum in a sandbox is worth. -/
noncomputable def Try.pinned : Pinned := { name := "ytilankmidkikjaa", sum := "1386dc6d83ebac6a944a96a25335fc0737fa491a57d0510a39d2e10714818a19", checked := Try.checked }
namespace Rows
def none {H : Type} : Left H := { results := [], args := [] }

/-- 'laws.FnWord': WHATEVER THE INPUT: true; the input reads as it did. -/
def fnWordSpec : ChangeSpec := { name := "fnWord", fn := fun _ => fun
  | [d] => { results := [.lit (.bool true)], args := [d] }
  | _ => none }
def fnWordRow : OpenClaim := { program := "ytilankmidkikjaa", sum := "1386dc6d83ebac6a944a96a25335fc0737fa491a57d0510a39d2e10714818a19", func := "loop.example/golayoctads/laws.FnWord", spec := "fnWord", unfollowed := true, recurses := true, apart := false }
def FnWordSaid : Prop := fnWordRow.holds Try.pinned (OpenSpec.ofChange fnWordSpec)

/-- ITS FALSE NEIGHBOUR: 'it returns false'. Refute it at one input. -/
def fnWordWrong : ChangeSpec := { name := "fnWord", fn := fun _ => fun
  | [d] => { results := [.lit (.bool false)], args := [d] }
  | _ => none }
def FnWordWrongFalsely : Prop := fnWordRow.holds Try.pinned (OpenSpec.ofChange fnWordWrong)

/-- 'laws.FnAdd': WHATEVER THE INPUT: true; the input reads as it did. -/
def fnAddSpec : ChangeSpec := { name := "fnAdd", fn := fun _ => fun
  | [d] => { results := [.lit (.bool true)], args := [d] }
  | _ => none }
def fnAddRow : OpenClaim := { program := "ytilankmidkikjaa", sum := "1386dc6d83ebac6a944a96a25335fc0737fa491a57d0510a39d2e10714818a19", func := "loop.example/golayoctads/laws.FnAdd", spec := "fnAdd", unfollowed := true, recurses := true, apart := false }
def FnAddSaid : Prop := fnAddRow.holds Try.pinned (OpenSpec.ofChange fnAddSpec)

/-- ITS FALSE NEIGHBOUR: 'it returns false'. Refute it at one input. -/
def fnAddWrong : ChangeSpec := { name := "fnAdd", fn := fun _ => fun
  | [d] => { results := [.lit (.bool false)], args := [d] }
  | _ => none }
def FnAddWrongFalsely : Prop := fnAddRow.holds Try.pinned (OpenSpec.ofChange fnAddWrong)

/-- 'laws.FnMeet': WHATEVER THE INPUT: true; the input reads as it did. -/
def fnMeetSpec : ChangeSpec := { name := "fnMeet", fn := fun _ => fun
  | [d] => { results := [.lit (.bool true)], args := [d] }
  | _ => none }
def fnMeetRow : OpenClaim := { program := "ytilankmidkikjaa", sum := "1386dc6d83ebac6a944a96a25335fc0737fa491a57d0510a39d2e10714818a19", func := "loop.example/golayoctads/laws.FnMeet", spec := "fnMeet", unfollowed := true, recurses := true, apart := false }
def FnMeetSaid : Prop := fnMeetRow.holds Try.pinned (OpenSpec.ofChange fnMeetSpec)

/-- ITS FALSE NEIGHBOUR: 'it returns false'. Refute it at one input. -/
def fnMeetWrong : ChangeSpec := { name := "fnMeet", fn := fun _ => fun
  | [d] => { results := [.lit (.bool false)], args := [d] }
  | _ => none }
def FnMeetWrongFalsely : Prop := fnMeetRow.holds Try.pinned (OpenSpec.ofChange fnMeetWrong)

/-- 'laws.FnLess': WHATEVER THE INPUT: true; the input reads as it did. -/
def fnLessSpec : ChangeSpec := { name := "fnLess", fn := fun _ => fun
  | [d] => { results := [.lit (.bool true)], args := [d] }
  | _ => none }
def fnLessRow : OpenClaim := { program := "ytilankmidkikjaa", sum := "1386dc6d83ebac6a944a96a25335fc0737fa491a57d0510a39d2e10714818a19", func := "loop.example/golayoctads/laws.FnLess", spec := "fnLess", unfollowed := true, recurses := true, apart := false }
def FnLessSaid : Prop := fnLessRow.holds Try.pinned (OpenSpec.ofChange fnLessSpec)

/-- ITS FALSE NEIGHBOUR: 'it returns false'. Refute it at one input. -/
def fnLessWrong : ChangeSpec := { name := "fnLess", fn := fun _ => fun
  | [d] => { results := [.lit (.bool false)], args := [d] }
  | _ => none }
def FnLessWrongFalsely : Prop := fnLessRow.holds Try.pinned (OpenSpec.ofChange fnLessWrong)

/-- 'laws.FnWordOf': WHATEVER THE INPUT: true; the input reads as it did. -/
def fnWordOfSpec : ChangeSpec := { name := "fnWordOf", fn := fun _ => fun
  | [d] => { results := [.lit (.bool true)], args := [d] }
  | _ => none }
def fnWordOfRow : OpenClaim := { program := "ytilankmidkikjaa", sum := "1386dc6d83ebac6a944a96a25335fc0737fa491a57d0510a39d2e10714818a19", func := "loop.example/golayoctads/laws.FnWordOf", spec := "fnWordOf", apart := false }
def FnWordOfSaid : Prop := fnWordOfRow.holds Try.pinned (OpenSpec.ofChange fnWordOfSpec)

/-- ITS FALSE NEIGHBOUR: 'it returns false'. Refute it at one input. -/
def fnWordOfWrong : ChangeSpec := { name := "fnWordOf", fn := fun _ => fun
  | [d] => { results := [.lit (.bool false)], args := [d] }
  | _ => none }
def FnWordOfWrongFalsely : Prop := fnWordOfRow.holds Try.pinned (OpenSpec.ofChange fnWordOfWrong)

/-- 'laws.FnText': WHATEVER THE INPUT: true; the input reads as it did. -/
def fnTextSpec : ChangeSpec := { name := "fnText", fn := fun _ => fun
  | [d] => { results := [.lit (.bool true)], args := [d] }
  | _ => none }
def fnTextRow : OpenClaim := { program := "ytilankmidkikjaa", sum := "1386dc6d83ebac6a944a96a25335fc0737fa491a57d0510a39d2e10714818a19", func := "loop.example/golayoctads/laws.FnText", spec := "fnText", inPlace := ["internal/abi.NoEscape"], apart := false }
def FnTextSaid : Prop := fnTextRow.holds Try.pinned (OpenSpec.ofChange fnTextSpec)

/-- ITS FALSE NEIGHBOUR: 'it returns false'. Refute it at one input. -/
def fnTextWrong : ChangeSpec := { name := "fnText", fn := fun _ => fun
  | [d] => { results := [.lit (.bool false)], args := [d] }
  | _ => none }
def FnTextWrongFalsely : Prop := fnTextRow.holds Try.pinned (OpenSpec.ofChange fnTextWrong)

/-- 'laws.FnRead': WHATEVER THE INPUT: true; the input reads as it did. -/
def fnReadSpec : ChangeSpec := { name := "fnRead", fn := fun _ => fun
  | [d] => { results := [.lit (.bool true)], args := [d] }
  | _ => none }
def fnReadRow : OpenClaim := { program := "ytilankmidkikjaa", sum := "1386dc6d83ebac6a944a96a25335fc0737fa491a57d0510a39d2e10714818a19", func := "loop.example/golayoctads/laws.FnRead", spec := "fnRead", inPlace := ["internal/abi.NoEscape"], apart := false }
def FnReadSaid : Prop := fnReadRow.holds Try.pinned (OpenSpec.ofChange fnReadSpec)

/-- ITS FALSE NEIGHBOUR: 'it returns false'. Refute it at one input. -/
def fnReadWrong : ChangeSpec := { name := "fnRead", fn := fun _ => fun
  | [d] => { results := [.lit (.bool false)], args := [d] }
  | _ => none }
def FnReadWrongFalsely : Prop := fnReadRow.holds Try.pinned (OpenSpec.ofChange fnReadWrong)

/-- 'laws.FnExactWordValid': WHATEVER THE INPUT: true; the input reads as it did. -/
def fnExactWordValidSpec : ChangeSpec := { name := "fnExactWordValid", fn := fun _ => fun
  | [d] => { results := [.lit (.bool true)], args := [d] }
  | _ => none }
def fnExactWordValidRow : OpenClaim := { program := "ytilankmidkikjaa", sum := "1386dc6d83ebac6a944a96a25335fc0737fa491a57d0510a39d2e10714818a19", func := "loop.example/golayoctads/laws.FnExactWordValid", spec := "fnExactWordValid", apart := false }
def FnExactWordValidSaid : Prop := fnExactWordValidRow.holds Try.pinned (OpenSpec.ofChange fnExactWordValidSpec)

/-- ITS FALSE NEIGHBOUR: 'it returns false'. Refute it at one input. -/
def fnExactWordValidWrong : ChangeSpec := { name := "fnExactWordValid", fn := fun _ => fun
  | [d] => { results := [.lit (.bool false)], args := [d] }
  | _ => none }
def FnExactWordValidWrongFalsely : Prop := fnExactWordValidRow.holds Try.pinned (OpenSpec.ofChange fnExactWordValidWrong)

/-- 'laws.FnExactWordWeight': WHATEVER THE INPUT: true; the input reads as it did. -/
def fnExactWordWeightSpec : ChangeSpec := { name := "fnExactWordWeight", fn := fun _ => fun
  | [d] => { results := [.lit (.bool true)], args := [d] }
  | _ => none }
def fnExactWordWeightRow : OpenClaim := { program := "ytilankmidkikjaa", sum := "1386dc6d83ebac6a944a96a25335fc0737fa491a57d0510a39d2e10714818a19", func := "loop.example/golayoctads/laws.FnExactWordWeight", spec := "fnExactWordWeight", apart := false }
def FnExactWordWeightSaid : Prop := fnExactWordWeightRow.holds Try.pinned (OpenSpec.ofChange fnExactWordWeightSpec)

/-- ITS FALSE NEIGHBOUR: 'it returns false'. Refute it at one input. -/
def fnExactWordWeightWrong : ChangeSpec := { name := "fnExactWordWeight", fn := fun _ => fun
  | [d] => { results := [.lit (.bool false)], args := [d] }
  | _ => none }
def FnExactWordWeightWrongFalsely : Prop := fnExactWordWeightRow.holds Try.pinned (OpenSpec.ofChange fnExactWordWeightWrong)

/-- 'laws.FnExactWordAdd': WHATEVER THE INPUT: true; the input reads as it did. -/
def fnExactWordAddSpec : ChangeSpec := { name := "fnExactWordAdd", fn := fun _ => fun
  | [d1, d2] => { results := [.lit (.bool true)], args := [d1, d2] }
  | _ => none }
def fnExactWordAddRow : OpenClaim := { program := "ytilankmidkikjaa", sum := "1386dc6d83ebac6a944a96a25335fc0737fa491a57d0510a39d2e10714818a19", func := "loop.example/golayoctads/laws.FnExactWordAdd", spec := "fnExactWordAdd", unfollowed := true, recurses := true, apart := false }
def FnExactWordAddSaid : Prop := fnExactWordAddRow.holds Try.pinned (OpenSpec.ofChange fnExactWordAddSpec)

/-- ITS FALSE NEIGHBOUR: 'it returns false'. Refute it at one input. -/
def fnExactWordAddWrong : ChangeSpec := { name := "fnExactWordAdd", fn := fun _ => fun
  | [d1, d2] => { results := [.lit (.bool false)], args := [d1, d2] }
  | _ => none }
def FnExactWordAddWrongFalsely : Prop := fnExactWordAddRow.holds Try.pinned (OpenSpec.ofChange fnExactWordAddWrong)

/-- 'laws.FnExactWordMeet': WHATEVER THE INPUT: true; the input reads as it did. -/
def fnExactWordMeetSpec : ChangeSpec := { name := "fnExactWordMeet", fn := fun _ => fun
  | [d1, d2] => { results := [.lit (.bool true)], args := [d1, d2] }
  | _ => none }
def fnExactWordMeetRow : OpenClaim := { program := "ytilankmidkikjaa", sum := "1386dc6d83ebac6a944a96a25335fc0737fa491a57d0510a39d2e10714818a19", func := "loop.example/golayoctads/laws.FnExactWordMeet", spec := "fnExactWordMeet", unfollowed := true, recurses := true, apart := false }
def FnExactWordMeetSaid : Prop := fnExactWordMeetRow.holds Try.pinned (OpenSpec.ofChange fnExactWordMeetSpec)

/-- ITS FALSE NEIGHBOUR: 'it returns false'. Refute it at one input. -/
def fnExactWordMeetWrong : ChangeSpec := { name := "fnExactWordMeet", fn := fun _ => fun
  | [d1, d2] => { results := [.lit (.bool false)], args := [d1, d2] }
  | _ => none }
def FnExactWordMeetWrongFalsely : Prop := fnExactWordMeetRow.holds Try.pinned (OpenSpec.ofChange fnExactWordMeetWrong)

/-- 'laws.FnExactWordLess': WHATEVER THE INPUT: true; the input reads as it did. -/
def fnExactWordLessSpec : ChangeSpec := { name := "fnExactWordLess", fn := fun _ => fun
  | [d1, d2] => { results := [.lit (.bool true)], args := [d1, d2] }
  | _ => none }
def fnExactWordLessRow : OpenClaim := { program := "ytilankmidkikjaa", sum := "1386dc6d83ebac6a944a96a25335fc0737fa491a57d0510a39d2e10714818a19", func := "loop.example/golayoctads/laws.FnExactWordLess", spec := "fnExactWordLess", unfollowed := true, recurses := true, apart := false }
def FnExactWordLessSaid : Prop := fnExactWordLessRow.holds Try.pinned (OpenSpec.ofChange fnExactWordLessSpec)

/-- ITS FALSE NEIGHBOUR: 'it returns false'. Refute it at one input. -/
def fnExactWordLessWrong : ChangeSpec := { name := "fnExactWordLess", fn := fun _ => fun
  | [d1, d2] => { results := [.lit (.bool false)], args := [d1, d2] }
  | _ => none }
def FnExactWordLessWrongFalsely : Prop := fnExactWordLessRow.holds Try.pinned (OpenSpec.ofChange fnExactWordLessWrong)

/-- 'laws.FnExactWordOf': WHATEVER THE INPUT: true; the input reads as it did. -/
def fnExactWordOfSpec : ChangeSpec := { name := "fnExactWordOf", fn := fun _ => fun
  | [d] => { results := [.lit (.bool true)], args := [d] }
  | _ => none }
def fnExactWordOfRow : OpenClaim := { program := "ytilankmidkikjaa", sum := "1386dc6d83ebac6a944a96a25335fc0737fa491a57d0510a39d2e10714818a19", func := "loop.example/golayoctads/laws.FnExactWordOf", spec := "fnExactWordOf", apart := false }
def FnExactWordOfSaid : Prop := fnExactWordOfRow.holds Try.pinned (OpenSpec.ofChange fnExactWordOfSpec)

/-- ITS FALSE NEIGHBOUR: 'it returns false'. Refute it at one input. -/
def fnExactWordOfWrong : ChangeSpec := { name := "fnExactWordOf", fn := fun _ => fun
  | [d] => { results := [.lit (.bool false)], args := [d] }
  | _ => none }
def FnExactWordOfWrongFalsely : Prop := fnExactWordOfRow.holds Try.pinned (OpenSpec.ofChange fnExactWordOfWrong)

/-- 'laws.FnExactWordText': WHATEVER THE INPUT: true; the input reads as it did. -/
def fnExactWordTextSpec : ChangeSpec := { name := "fnExactWordText", fn := fun _ => fun
  | [d] => { results := [.lit (.bool true)], args := [d] }
  | _ => none }
def fnExactWordTextRow : OpenClaim := { program := "ytilankmidkikjaa", sum := "1386dc6d83ebac6a944a96a25335fc0737fa491a57d0510a39d2e10714818a19", func := "loop.example/golayoctads/laws.FnExactWordText", spec := "fnExactWordText", inPlace := ["internal/abi.NoEscape"], apart := false }
def FnExactWordTextSaid : Prop := fnExactWordTextRow.holds Try.pinned (OpenSpec.ofChange fnExactWordTextSpec)

/-- ITS FALSE NEIGHBOUR: 'it returns false'. Refute it at one input. -/
def fnExactWordTextWrong : ChangeSpec := { name := "fnExactWordText", fn := fun _ => fun
  | [d] => { results := [.lit (.bool false)], args := [d] }
  | _ => none }
def FnExactWordTextWrongFalsely : Prop := fnExactWordTextRow.holds Try.pinned (OpenSpec.ofChange fnExactWordTextWrong)

/-- 'laws.FnExactWordRead': WHATEVER THE INPUT: true; the input reads as it did. -/
def fnExactWordReadSpec : ChangeSpec := { name := "fnExactWordRead", fn := fun _ => fun
  | [d] => { results := [.lit (.bool true)], args := [d] }
  | _ => none }
def fnExactWordReadRow : OpenClaim := { program := "ytilankmidkikjaa", sum := "1386dc6d83ebac6a944a96a25335fc0737fa491a57d0510a39d2e10714818a19", func := "loop.example/golayoctads/laws.FnExactWordRead", spec := "fnExactWordRead", apart := false }
def FnExactWordReadSaid : Prop := fnExactWordReadRow.holds Try.pinned (OpenSpec.ofChange fnExactWordReadSpec)

/-- ITS FALSE NEIGHBOUR: 'it returns false'. Refute it at one input. -/
def fnExactWordReadWrong : ChangeSpec := { name := "fnExactWordRead", fn := fun _ => fun
  | [d] => { results := [.lit (.bool false)], args := [d] }
  | _ => none }
def FnExactWordReadWrongFalsely : Prop := fnExactWordReadRow.holds Try.pinned (OpenSpec.ofChange fnExactWordReadWrong)

/- THE SECOND FORM. 'bulk': how many values and letters a reading holds, each counted each time it is reached (what is shared counts as often as it is met; a slice's spare places count too). A statement '..UptoSaid' is the law's where the arguments, and the package variables that the reading takes, are together of bulk at most 1048576: NARROWER than '..Said'. Prove '..Said' where nothing that the law and all that it calls make is longer than what came in: it says more and counts as full. Else prove '..UptoSaid'. A law counts once. -/
mutual
def uptoBulk {H : Type} : DataW H → Nat
  | .lit (.string bytes) => bytes.length + 1
  | .lit _ => 1
  | .nil => 1
  | .ptr d => uptoBulk d + 1
  | .slice elems spare => uptoBulkAll elems + uptoBulkAll spare + 1
  | .agg parts => uptoBulkAll parts + 1
  | .iface _ d => uptoBulk d + 1
  | .map entries => uptoBulkEntries entries + 1
  | .held _ => 1
def uptoBulkAll {H : Type} : List (DataW H) → Nat
  | [] => 0
  | d :: r => uptoBulk d + uptoBulkAll r
def uptoBulkEntries {H : Type} : List (Lit × DataW H) → Nat
  | [] => 0
  | x :: r => uptoBulkEntry x + uptoBulkEntries r
def uptoBulkEntry {H : Type} : Lit × DataW H → Nat
  | (.string bytes, d) => bytes.length + uptoBulk d + 1
  | (_, d) => uptoBulk d + 1
 end
def uptoSmall : (H : Type) → List (DataW H) → Bool := fun _ ds => decide (uptoBulkAll ds ≤ 1048576)
def OpenSpec.upto (s : _root_.Go.ChangeSpec) : _root_.Go.OpenSpec := { _root_.Go.OpenSpec.ofChange s with cond := some uptoSmall }

/-- 'laws.FnWord', WHERE WHAT IT READS IS OF BULK AT MOST 1048576: true; the input reads as it did. -/
def fnWordUptoRow : OpenClaim := { program := "ytilankmidkikjaa", sum := "1386dc6d83ebac6a944a96a25335fc0737fa491a57d0510a39d2e10714818a19", func := "loop.example/golayoctads/laws.FnWord", spec := "fnWord", unfollowed := true, recurses := true, apart := false, narrowed := true }
def FnWordUptoSaid : Prop := fnWordUptoRow.holds Try.pinned (OpenSpec.upto fnWordSpec)

/-- 'laws.FnAdd', WHERE WHAT IT READS IS OF BULK AT MOST 1048576: true; the input reads as it did. -/
def fnAddUptoRow : OpenClaim := { program := "ytilankmidkikjaa", sum := "1386dc6d83ebac6a944a96a25335fc0737fa491a57d0510a39d2e10714818a19", func := "loop.example/golayoctads/laws.FnAdd", spec := "fnAdd", unfollowed := true, recurses := true, apart := false, narrowed := true }
def FnAddUptoSaid : Prop := fnAddUptoRow.holds Try.pinned (OpenSpec.upto fnAddSpec)

/-- 'laws.FnMeet', WHERE WHAT IT READS IS OF BULK AT MOST 1048576: true; the input reads as it did. -/
def fnMeetUptoRow : OpenClaim := { program := "ytilankmidkikjaa", sum := "1386dc6d83ebac6a944a96a25335fc0737fa491a57d0510a39d2e10714818a19", func := "loop.example/golayoctads/laws.FnMeet", spec := "fnMeet", unfollowed := true, recurses := true, apart := false, narrowed := true }
def FnMeetUptoSaid : Prop := fnMeetUptoRow.holds Try.pinned (OpenSpec.upto fnMeetSpec)

/-- 'laws.FnLess', WHERE WHAT IT READS IS OF BULK AT MOST 1048576: true; the input reads as it did. -/
def fnLessUptoRow : OpenClaim := { program := "ytilankmidkikjaa", sum := "1386dc6d83ebac6a944a96a25335fc0737fa491a57d0510a39d2e10714818a19", func := "loop.example/golayoctads/laws.FnLess", spec := "fnLess", unfollowed := true, recurses := true, apart := false, narrowed := true }
def FnLessUptoSaid : Prop := fnLessUptoRow.holds Try.pinned (OpenSpec.upto fnLessSpec)

/-- 'laws.FnWordOf', WHERE WHAT IT READS IS OF BULK AT MOST 1048576: true; the input reads as it did. -/
def fnWordOfUptoRow : OpenClaim := { program := "ytilankmidkikjaa", sum := "1386dc6d83ebac6a944a96a25335fc0737fa491a57d0510a39d2e10714818a19", func := "loop.example/golayoctads/laws.FnWordOf", spec := "fnWordOf", apart := false, narrowed := true }
def FnWordOfUptoSaid : Prop := fnWordOfUptoRow.holds Try.pinned (OpenSpec.upto fnWordOfSpec)

/-- 'laws.FnText', WHERE WHAT IT READS IS OF BULK AT MOST 1048576: true; the input reads as it did. -/
def fnTextUptoRow : OpenClaim := { program := "ytilankmidkikjaa", sum := "1386dc6d83ebac6a944a96a25335fc0737fa491a57d0510a39d2e10714818a19", func := "loop.example/golayoctads/laws.FnText", spec := "fnText", inPlace := ["internal/abi.NoEscape"], apart := false, narrowed := true }
def FnTextUptoSaid : Prop := fnTextUptoRow.holds Try.pinned (OpenSpec.upto fnTextSpec)

/-- 'laws.FnRead', WHERE WHAT IT READS IS OF BULK AT MOST 1048576: true; the input reads as it did. -/
def fnReadUptoRow : OpenClaim := { program := "ytilankmidkikjaa", sum := "1386dc6d83ebac6a944a96a25335fc0737fa491a57d0510a39d2e10714818a19", func := "loop.example/golayoctads/laws.FnRead", spec := "fnRead", inPlace := ["internal/abi.NoEscape"], apart := false, narrowed := true }
def FnReadUptoSaid : Prop := fnReadUptoRow.holds Try.pinned (OpenSpec.upto fnReadSpec)

/-- 'laws.FnExactWordValid', WHERE WHAT IT READS IS OF BULK AT MOST 1048576: true; the input reads as it did. -/
def fnExactWordValidUptoRow : OpenClaim := { program := "ytilankmidkikjaa", sum := "1386dc6d83ebac6a944a96a25335fc0737fa491a57d0510a39d2e10714818a19", func := "loop.example/golayoctads/laws.FnExactWordValid", spec := "fnExactWordValid", apart := false, narrowed := true }
def FnExactWordValidUptoSaid : Prop := fnExactWordValidUptoRow.holds Try.pinned (OpenSpec.upto fnExactWordValidSpec)

/-- 'laws.FnExactWordWeight', WHERE WHAT IT READS IS OF BULK AT MOST 1048576: true; the input reads as it did. -/
def fnExactWordWeightUptoRow : OpenClaim := { program := "ytilankmidkikjaa", sum := "1386dc6d83ebac6a944a96a25335fc0737fa491a57d0510a39d2e10714818a19", func := "loop.example/golayoctads/laws.FnExactWordWeight", spec := "fnExactWordWeight", apart := false, narrowed := true }
def FnExactWordWeightUptoSaid : Prop := fnExactWordWeightUptoRow.holds Try.pinned (OpenSpec.upto fnExactWordWeightSpec)

/-- 'laws.FnExactWordAdd', WHERE WHAT IT READS IS OF BULK AT MOST 1048576: true; the input reads as it did. -/
def fnExactWordAddUptoRow : OpenClaim := { program := "ytilankmidkikjaa", sum := "1386dc6d83ebac6a944a96a25335fc0737fa491a57d0510a39d2e10714818a19", func := "loop.example/golayoctads/laws.FnExactWordAdd", spec := "fnExactWordAdd", unfollowed := true, recurses := true, apart := false, narrowed := true }
def FnExactWordAddUptoSaid : Prop := fnExactWordAddUptoRow.holds Try.pinned (OpenSpec.upto fnExactWordAddSpec)

/-- 'laws.FnExactWordMeet', WHERE WHAT IT READS IS OF BULK AT MOST 1048576: true; the input reads as it did. -/
def fnExactWordMeetUptoRow : OpenClaim := { program := "ytilankmidkikjaa", sum := "1386dc6d83ebac6a944a96a25335fc0737fa491a57d0510a39d2e10714818a19", func := "loop.example/golayoctads/laws.FnExactWordMeet", spec := "fnExactWordMeet", unfollowed := true, recurses := true, apart := false, narrowed := true }
def FnExactWordMeetUptoSaid : Prop := fnExactWordMeetUptoRow.holds Try.pinned (OpenSpec.upto fnExactWordMeetSpec)

/-- 'laws.FnExactWordLess', WHERE WHAT IT READS IS OF BULK AT MOST 1048576: true; the input reads as it did. -/
def fnExactWordLessUptoRow : OpenClaim := { program := "ytilankmidkikjaa", sum := "1386dc6d83ebac6a944a96a25335fc0737fa491a57d0510a39d2e10714818a19", func := "loop.example/golayoctads/laws.FnExactWordLess", spec := "fnExactWordLess", unfollowed := true, recurses := true, apart := false, narrowed := true }
def FnExactWordLessUptoSaid : Prop := fnExactWordLessUptoRow.holds Try.pinned (OpenSpec.upto fnExactWordLessSpec)

/-- 'laws.FnExactWordOf', WHERE WHAT IT READS IS OF BULK AT MOST 1048576: true; the input reads as it did. -/
def fnExactWordOfUptoRow : OpenClaim := { program := "ytilankmidkikjaa", sum := "1386dc6d83ebac6a944a96a25335fc0737fa491a57d0510a39d2e10714818a19", func := "loop.example/golayoctads/laws.FnExactWordOf", spec := "fnExactWordOf", apart := false, narrowed := true }
def FnExactWordOfUptoSaid : Prop := fnExactWordOfUptoRow.holds Try.pinned (OpenSpec.upto fnExactWordOfSpec)

/-- 'laws.FnExactWordText', WHERE WHAT IT READS IS OF BULK AT MOST 1048576: true; the input reads as it did. -/
def fnExactWordTextUptoRow : OpenClaim := { program := "ytilankmidkikjaa", sum := "1386dc6d83ebac6a944a96a25335fc0737fa491a57d0510a39d2e10714818a19", func := "loop.example/golayoctads/laws.FnExactWordText", spec := "fnExactWordText", inPlace := ["internal/abi.NoEscape"], apart := false, narrowed := true }
def FnExactWordTextUptoSaid : Prop := fnExactWordTextUptoRow.holds Try.pinned (OpenSpec.upto fnExactWordTextSpec)

/-- 'laws.FnExactWordRead', WHERE WHAT IT READS IS OF BULK AT MOST 1048576: true; the input reads as it did. -/
def fnExactWordReadUptoRow : OpenClaim := { program := "ytilankmidkikjaa", sum := "1386dc6d83ebac6a944a96a25335fc0737fa491a57d0510a39d2e10714818a19", func := "loop.example/golayoctads/laws.FnExactWordRead", spec := "fnExactWordRead", apart := false, narrowed := true }
def FnExactWordReadUptoSaid : Prop := fnExactWordReadUptoRow.holds Try.pinned (OpenSpec.upto fnExactWordReadSpec)

end Rows
end Go.Proofs.Ytilankmidkikjaa
