/- Putting new bytes among blobs and dropping them again: plain facts. -/
import Derived.Test.YtnadgdjaldemhaaGreatDoorGO
import Derived.Test.YtnadgdjaldemhaaGreatDoorGO
namespace Go.Proofs.YtnadgdjaldemhaaGreatDoor
open Go.RowKit
/-- blobs with new bytes among them -/
def bIns (L : List Bl) (D : List UInt8) : List Bl := L.take (bTo L (dig D)) ++ ⟨dig D, D, 0, false⟩ :: L.drop (bTo L (dig D))
theorem bIns_length (L : List Bl) (D : List UInt8) : (bIns L D).length = L.length + 1 := by
  have := bTo_le L (dig D)
  unfold bIns; simp; omega
theorem bIns_at (L : List Bl) (D : List UInt8) (h : bTo L (dig D) < (bIns L D).length) : (bIns L D)[bTo L (dig D)] = ⟨dig D, D, 0, false⟩ := by
  have hl := bTo_le L (dig D)
  have e : (L.take (bTo L (dig D))).length = bTo L (dig D) := by rw [List.length_take]; omega
  have h1 : (bIns L D)[bTo L (dig D)]? = some ⟨dig D, D, 0, false⟩ := by
    unfold bIns
    rw [List.getElem?_append_right (by omega), e, Nat.sub_self]
    rfl
  rw [List.getElem?_eq_getElem h] at h1
  injection h1
theorem bIns_erase (L : List Bl) (D : List UInt8) : (bIns L D).eraseIdx (bTo L (dig D)) = L := by
  have hl := bTo_le L (dig D)
  have e : (L.take (bTo L (dig D))).length = bTo L (dig D) := by rw [List.length_take]; omega
  unfold bIns
  rw [List.eraseIdx_append_of_length_le (by omega), e, Nat.sub_self, List.eraseIdx_cons_zero, List.take_append_drop]
theorem not_there {L : List Bl} {d : List UInt8} (hn : L.any (fun x => x.dg == d) = false) : ∀ x ∈ L, x.dg ≠ d := fun x hx q => by
  rw [List.any_eq_false] at hn
  exact hn x hx (by rw [q]; simp)
theorem bIns_err {L : List Bl} {D : List UInt8} (h : bsErr L = 0) (hl : L.length ≤ 23) (hD : D.length ≤ 300) (hn : ∀ x ∈ L, x.dg ≠ dig D) : bsErr (bIns L D) = 0 := by
  obtain ⟨-, hf, hs⟩ := bsErr_zero.1 h
  refine bsErr_zero.2 ⟨by rw [bIns_length]; omega, fun b hb => ?_, Srt.put hs ⟨dig D, D, 0, false⟩ hn⟩
  unfold bIns at hb
  rcases List.mem_append.1 hb with q | q
  · exact hf b (List.mem_of_mem_take q)
  · rcases List.mem_cons.1 q with q | q
    · subst q
      exact ⟨cErr_dig D, hD, rfl, by show (0 : Int) ≤ 0; omega, by show (0 : Int) ≤ 5; omega⟩
    · exact hf b (List.mem_of_mem_drop q)
theorem put_first {L : List Bl} {D : List UInt8} (h : bsErr L = 0) (hl : L.length ≤ 23) (hD : D.length ≤ 300) (hn : ∀ x ∈ L, x.dg ≠ dig D) : bPut L D = (0, bIns L D, dig D) := by
  have ha : ¬ bAt L (dig D) < L.length := fun q => by
    obtain ⟨b, hb, e⟩ := bAt_lt.1 q
    exact hn b hb e
  unfold bPut
  rw [if_neg (by omega), if_neg (by omega), if_neg ha, if_neg (by omega)]
  rfl
theorem put_again {L : List Bl} {D : List UInt8} (h : bsErr (bIns L D) = 0) (hD : D.length ≤ 300) : bPut (bIns L D) D = (0, bIns L D, dig D) := by
  have ha : bAt (bIns L D) (dig D) < (bIns L D).length := bAt_lt.2 ⟨⟨dig D, D, 0, false⟩, by unfold bIns; simp, rfl⟩
  unfold bPut
  rw [if_neg (by omega), if_neg (by omega), if_pos ha]
theorem drop_new {L : List Bl} {D : List UInt8} (h : bsErr (bIns L D) = 0) : bDrop (bIns L D) (dig D) = (0, L) := by
  obtain ⟨-, -, hs⟩ := bsErr_zero.1 h
  have hT : bTo L (dig D) < (bIns L D).length := by rw [bIns_length]; have := bTo_le L (dig D); omega
  have he := bIns_at L D hT
  have hat : bAt (bIns L D) (dig D) = bTo L (dig D) := by
    have := bAt_of hs hT
    rwa [he] at this
  have hlt : bAt (bIns L D) (dig D) < (bIns L D).length := by rw [hat]; exact hT
  have e : (bIns L D)[bAt (bIns L D) (dig D)] = ⟨dig D, D, 0, false⟩ := by
    rw [← he]
    congr 1
  unfold bDrop
  rw [if_neg (by omega), dif_pos hlt, if_neg (by rw [e]; show ¬ (0 : Int) < 0; omega), hat, bIns_erase]
theorem drop_none_eq {L : List Bl} {d : List UInt8} (h : bsErr L = 0) (hn : ∀ x ∈ L, x.dg ≠ d) : bDrop L d = (5, []) := by
  have ha : ¬ bAt L d < L.length := fun q => by
    obtain ⟨b, hb, e⟩ := bAt_lt.1 q
    exact hn b hb e
  unfold bDrop
  rw [if_neg (by omega), dif_neg ha]
end Go.Proofs.YtnadgdjaldemhaaGreatDoor
