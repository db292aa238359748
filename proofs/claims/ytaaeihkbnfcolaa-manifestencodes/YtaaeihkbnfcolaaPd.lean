/- Reading a manifest: plain functions; what is kept beside a struct variable. -/
import Derived.Test.YtaaeihkbnfcolaaPb
import Derived.Test.YtaaeihkbnfcolaaRs
import Derived.OneCell
namespace Go.Proofs.Ytaaeihkbnfcolaa
open Go.RowKit
/-- reading k parts more, behind those that are read, and the end -/
def rdTail : Nat → List Prt → List UInt8 → Int × List Prt
  | 0, acc, r => if 0 < r.length then (3, []) else if psErr acc ≠ 0 then (psErr acc, []) else (0, acc)
  | k + 1, acc, r =>
    if tErr r ≠ 0 then (tErr r, []) else if (tRest r).length < 32 then (8, [])
    else if rErr ((tRest r).drop 32) ≠ 0 then (rErr ((tRest r).drop 32), [])
    else rdTail k (acc ++ [⟨tStr r, hexT ((tRest r).take 32), (rVal ((tRest r).drop 32) : Int)⟩]) (rRest ((tRest r).drop 32))
/-- reading a manifest: the error and the parts -/
def dec (l : List UInt8) : Int × List Prt :=
  if 2000 < l.length then (1, []) else if l.length < 3 ∨ l.take 3 ≠ [65, 77, 49] then (3, [])
  else if rErr (l.drop 3) ≠ 0 then (rErr (l.drop 3), []) else if 8 < rVal (l.drop 3) then (1, [])
  else rdTail (rVal (l.drop 3)) [] (rRest (l.drop 3))
theorem rRest_le (l : List UInt8) : (rRest l).length ≤ l.length := by
  unfold rRest; split
  · rw [List.length_drop]; omega
  · simp
theorem tRest_le (l : List UInt8) : (tRest l).length ≤ l.length := by
  unfold tRest; split
  · rw [List.length_drop]; have := rRest_le l; omega
  · simp
theorem tStr_le (l : List UInt8) : (tStr l).length ≤ l.length := by
  unfold tStr; split
  · rw [List.length_take]; have := rRest_le l; omega
  · simp
/-- bytes are kept where a cell of a block that holds no byte is written -/
theorem Rd.put_other {w : World} {A : Option Addr} {n c : Nat} {l : List UInt8} (h : Rd w 1 A n c (l.map bv8)) {g : Nat} {t : TypeId} {xs : List Value} (hg : Blk w g t xs) (hx : ∀ v ∈ xs, ∀ y, v ≠ bv8 y) (i : Nat) (u : Value) :
    Rd (w.setCell ⟨g, i, none⟩ u) 1 A n c (l.map bv8) := by
  obtain ⟨h1, h2, h3, h4⟩ := h
  refine ⟨h1, h2, h3, fun hp => ?_⟩
  obtain ⟨b, off, rfl, hc⟩ := h4 hp
  refine ⟨b, off, rfl, fun j v hv => ?_⟩
  have hcj := hc j v hv
  have hne : b ≠ g := by
    rintro rfl
    rw [hg.cell] at hcj
    have hm : v ∈ xs := List.mem_of_getElem? hcj
    rw [List.getElem?_map] at hv
    obtain ⟨y, _, rfl⟩ := Option.map_eq_some_iff.1 hv
    exact hx _ hm y rfl
  have ho : (⟨g, i, none⟩ : Addr) ≠ ⟨b, off + j, none⟩ := by
    intro e
    injection e with e1 _
    exact hne e1.symm
  exact (World.cell?_setCell_other _ _ _ _ ho).trans hcj
/-- a slice is kept where its own block is kept -/
theorem Rd.keepAt {w w' : World} {size n c : Nat} {A : Option Addr} {xs : List Value} (h : Rd w size A n c xs) (hk : ∀ a : Addr, A = some a → w'.heap[a.block]? = w.heap[a.block]?) : Rd w' size A n c xs := by
  obtain ⟨h1, h2, h3, h4⟩ := h
  refine ⟨h1, h2, h3, fun hp => ?_⟩
  obtain ⟨b, off, rfl, hc⟩ := h4 hp
  refine ⟨b, off, rfl, fun j v hv => ?_⟩
  have hcj := hc j v hv
  have hb := hk _ rfl
  unfold World.cell? at hcj ⊢
  simp only at hcj hb ⊢
  rw [hb]; exact hcj
/-- a manifest's parts, or none, and an error -/
def GivesP (l : List Prt) (err : Int) (w : World) (e : Ending) (w' : World) : Prop :=
  ∃ A n c, e = .returned (.tuple #[.slice A n c, .int .i64 err]) ∧ Rd w' 3 A n c (pcs l) ∧ (A = none → c = 0) ∧ Below w.heap.size w w'
theorem givesP_nil {w : World} {err : Int} {e : Ending} {w' : World} (h : e = .returned (.tuple #[.slice none 0 0, .int .i64 err]) ∧ Below w.heap.size w w') : GivesP [] err w e w' := by
  obtain ⟨rfl, hb⟩ := h
  exact ⟨none, 0, 0, rfl, Rd.nil _ _, fun _ => rfl, hb⟩
theorem part_info : (Try.prog.info? 39).map (fun i => (i.zero, i.size, i.bytes)) = some (some (.agg #[.string ByteArray.empty, .string ByteArray.empty, .int .i64 0]), 3, 40) := by kernel_rfl
end Go.Proofs.Ytaaeihkbnfcolaa
