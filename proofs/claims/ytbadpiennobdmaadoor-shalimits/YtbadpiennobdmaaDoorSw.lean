/- Words of bytes, block by block. Nothing of the program. -/
import Derived.Test.YtbadpiennobdmaaDoorShx
namespace Go.Proofs.YtbadpiennobdmaaDoor
open Go.RowKit
theorem words_nil {l : List UInt8} (h : l.length < 4) : words l = [] := List.eq_nil_of_length_eq_zero (by rw [words_length]; omega)
theorem words_drop : ∀ (k : Nat) (l : List UInt8), words (l.drop (4 * k)) = (words l).drop k
  | 0, l => by simp
  | k + 1, a :: b :: c :: d :: r => by
    rw [show 4 * (k + 1) = 4 * k + 4 from by omega]
    simp only [List.drop_succ_cons, words]
    exact words_drop k r
  | k + 1, [] => by simp [words]
  | k + 1, [a] => by rw [words_nil (by simp; omega), words_nil (by simp)]; simp
  | k + 1, [a, b] => by rw [words_nil (by simp; omega), words_nil (by simp)]; simp
  | k + 1, [a, b, c] => by rw [words_nil (by simp; omega), words_nil (by simp)]; simp
theorem words_takes : ∀ (k : Nat) (l : List UInt8), words (l.take (4 * k)) = (words l).take k
  | 0, l => by simp [words]
  | k + 1, a :: b :: c :: d :: r => by
    rw [show 4 * (k + 1) = 4 * k + 4 from by omega]
    simp only [List.take_succ_cons, words]
    rw [words_takes k r]
  | k + 1, [] => by simp [words]
  | k + 1, [a] => by rw [words_nil (by simp; omega), words_nil (by simp)]; simp
  | k + 1, [a, b] => by rw [words_nil (by simp; omega), words_nil (by simp)]; simp
  | k + 1, [a, b, c] => by rw [words_nil (by simp; omega), words_nil (by simp)]; simp
theorem words_block (l : List UInt8) (j : Nat) : words ((l.drop (64 * j)).take 64) = ((words l).drop (16 * j)).take 16 := by
  rw [show 64 = 4 * 16 from rfl, words_takes, show 4 * 16 * j = 4 * (16 * j) from by omega, words_drop]
/-- the state words behind j blocks of words -/
def stW (ws : List (BitVec 32)) : Nat → St → St
  | 0, s => s
  | j + 1, s => stp (stW ws j s) ((ws.drop (16 * j)).take 16)
theorem stW_zero (ws : List (BitVec 32)) (s : St) : stW ws 0 s = s := rfl
theorem stW_succ (ws : List (BitVec 32)) (j : Nat) (s : St) : stW ws (j + 1) s = stp (stW ws j s) ((ws.drop (16 * j)).take 16) := rfl
theorem stW_blocks (l : List UInt8) (s : St) : ∀ j, stW (words l) j s = blocks j l s
  | 0 => rfl
  | j + 1 => by rw [stW_succ, stW_blocks l s j, blocks_snoc, stpB, words_block]
theorem pad_words (l : List UInt8) : (words (pad l)).length = (pad l).length / 4 := words_length _
theorem pad_mod (l : List UInt8) : (pad l).length % 64 = 0 := by rw [pad_length]; exact zeros_spec _
theorem sumS_words (l : List UInt8) (j : Nat) (h : 16 * j = (words (pad l)).length) : stW (words (pad l)) j iniS = sumS l := by
  have h1 := pad_mod l
  rw [stW_blocks, sumS]
  congr 1
  rw [pad_words] at h
  omega
theorem Rd.dropK {α : Type} {f : α → Value} {w : World} {b off n c : Nat} {l : List α} (h : Rd w 1 (some ⟨b, off, none⟩) n c (l.map f)) (k : Nat) (hn : k ≤ n) : Rd w 1 (some ⟨b, off + k, none⟩) (n - k) (c - k) ((l.drop k).map f) := by
  obtain ⟨h1, h2, h3, h4⟩ := h
  rw [List.length_map] at h1
  refine ⟨by rw [List.length_map, List.length_drop]; omega, by omega, by omega, fun hp => ⟨b, off + k, rfl, fun j v hv => ?_⟩⟩
  rw [List.length_map, List.length_drop] at hp
  obtain ⟨b', off', e, hc⟩ := h4 (by rw [List.length_map]; omega)
  injection e with e
  injection e with e1 e2
  subst e1; subst e2
  rw [List.getElem?_map, List.getElem?_drop] at hv
  have := hc (k + j) v (by rw [List.getElem?_map]; exact hv)
  rwa [← Nat.add_assoc] at this
end Go.Proofs.YtbadpiennobdmaaDoor
