
/- The dump's head word by word, cheaply: what every row asks of it. -/
import Derived.Test.YtahgialnhomefaaJ14
namespace Go.Proofs.Ytahgialnhomefaa
set_option maxRecDepth 100000 in
noncomputable def iniP : { L : List Char // Try.prog.initOrder = String.ofList L } := ⟨_, by unfold Try.prog; rfl⟩
theorem iniL : Try.prog.initOrder.toList = iniP.1 := (congrArg String.toList iniP.2).trans String.toList_ofList
theorem words_cons (c : Char) (r : List Char) (h : c ≠ Char.ofNat 32) : wordsSigns (c :: r) = match wordsSigns r with | w :: ws => (c :: w) :: ws | [] => [[c]] := by
  rw [wordsSigns]
  all_goals first | rfl | exact h | (intro e; exact h e)
theorem words_word : ∀ (a b : List Char), (a.all fun c => c != Char.ofNat 32) = true → wordsSigns (a ++ Char.ofNat 32 :: b) = a :: wordsSigns b
  | [], b, _ => rfl
  | c :: a, b, h => by
    simp only [List.all_cons, Bool.and_eq_true, bne_iff_ne, ne_eq] at h
    rw [List.cons_append, words_cons _ _ h.1, words_word a b (by simpa using h.2)]
set_option maxRecDepth 100000 in
theorem split1 : iniP.1 = iniP.1.take 7 ++ Char.ofNat 32 :: iniP.1.drop 8 := by kernel_rfl
set_option maxRecDepth 100000 in
theorem split2 : iniP.1.drop 8 = (iniP.1.drop 8).take 64 ++ Char.ofNat 32 :: iniP.1.drop 73 := by kernel_rfl
set_option maxRecDepth 100000 in
theorem split3 : iniP.1.drop 73 = (iniP.1.drop 73).take 3 ++ Char.ofNat 32 :: iniP.1.drop 77 := by kernel_rfl
theorem isCut : (iniP.1.drop 73).take 3 = "cut".toList := by kernel_rfl
set_option maxRecDepth 100000 in
theorem isHead : ((iniP.1.take 7 == "harness".toList || iniP.1.take 7 == "ownmain".toList) && isSumSigns ((iniP.1.drop 8).take 64)) = true := by kernel_rfl
theorem wordsL : wordsSigns iniP.1 = iniP.1.take 7 :: (iniP.1.drop 8).take 64 :: "cut".toList :: wordsSigns (iniP.1.drop 77) := by
  rw [← isCut]
  conv => lhs; rw [split1]
  rw [words_word _ _ (by kernel_rfl)]
  conv => lhs; rw [split2]
  rw [words_word _ _ (by kernel_rfl)]
  conv => lhs; rw [split3]
  rw [words_word _ _ (by kernel_rfl)]
theorem behindL : behindMainWord (wordsSigns Try.prog.initOrder.toList) = "cut".toList :: wordsSigns (iniP.1.drop 77) := by
  rw [iniL, wordsL]
  unfold behindMainWord
  simp only [isHead, if_true]
theorem stripL (ws : List (List Char)) : stripLifts liftWords ("cut".toList :: ws) = ([], "cut".toList :: ws) := by kernel_rfl
section
variable (P : Program) (ws : List (List Char)) (h : behindMainWord (wordsSigns P.initOrder.toList) = "cut".toList :: ws)
include h
theorem head_of : P.headLifts = [] := by
  unfold Program.headLifts
  rw [h]
  simp only [stripL]
  kernel_rfl
theorem make_of : P.make = some .cut := by
  unfold Program.make
  rw [h, head_of P ws h]
  kernel_rfl
theorem lifts_of : P.liftsFinal = false := by
  unfold Program.liftsFinal
  rw [h, head_of P ws h]
  kernel_rfl
theorem enter_of (h1 : P.laysLater = false) (h2 : P.bearsReflect = false) (h3 : P.doorFits [] = true) : P.mayEnter = true := by
  unfold Program.mayEnter
  rw [h]
  simp only [stripL]
  rw [h1, h2, h3]
  kernel_rfl
end
theorem mayE : Try.pinned.checked.prog.mayEnter = true := enter_of _ _ behindL (by kernel_rfl) (by kernel_rfl) (by kernel_rfl)
theorem liftsF : Try.pinned.checked.prog.liftsFinal = false := lifts_of _ _ behindL
theorem makeF : Try.pinned.checked.prog.make = some .cut := make_of _ _ behindL
theorem both {a b : Bool} (h : a = true) (k : b = true) : (a && b) = true := by rw [h, k]; rfl
end Go.Proofs.Ytahgialnhomefaa
