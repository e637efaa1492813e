/- The decks of the codes of 5 nodes. Plain mathematics, no condition. -/
import Derived.Test.YtkngijkhhonikaaDoorDeckTab
namespace Go.Proofs.YtkngijkhhonikaaDoor
set_option linter.unusedVariables false
set_option maxRecDepth 100000

theorem deck5_0 : deckOk 5 tabL4 firsts5 0 ((tabK5.drop 0).take 128) = true := by decide +kernel
theorem deck5_1 : deckOk 5 tabL4 firsts5 128 ((tabK5.drop 128).take 128) = true := by decide +kernel
theorem deck5_2 : deckOk 5 tabL4 firsts5 256 ((tabK5.drop 256).take 128) = true := by decide +kernel
theorem deck5_3 : deckOk 5 tabL4 firsts5 384 ((tabK5.drop 384).take 128) = true := by decide +kernel
theorem deck5_4 : deckOk 5 tabL4 firsts5 512 ((tabK5.drop 512).take 128) = true := by decide +kernel
theorem deck5_5 : deckOk 5 tabL4 firsts5 640 ((tabK5.drop 640).take 128) = true := by decide +kernel
theorem deck5_6 : deckOk 5 tabL4 firsts5 768 ((tabK5.drop 768).take 128) = true := by decide +kernel
theorem deck5_7 : deckOk 5 tabL4 firsts5 896 ((tabK5.drop 896).take 128) = true := by decide +kernel
end Go.Proofs.YtkngijkhhonikaaDoor
