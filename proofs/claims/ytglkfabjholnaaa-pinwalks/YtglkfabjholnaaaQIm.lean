/- Slices of integers that came in. Nothing of the program. -/
import Derived.Test.YtglkfabjholnaaaGA
namespace Go.Proofs.Ytglkfabjholnaaa
open Go.RowKit
def iv (x : Int) : Value := .int .i64 x
theorem rd_ints {w : World} {a : Addr} {len cap : Nat} {zs : List Int} (hl : len ≤ cap) (hm : cap ≤ maxLen) (hz : zs.length = cap) (hc : ∀ i, i < zs.length → w.cell? (a.add i) = some (.int .i64 (zs.getD i 0)))
    (hw : ∀ n ∈ zs, (Lit.int .i64 n).wf = true) : ∃ l : List Int, l.length = len ∧ (∀ n ∈ l, (Lit.int .i64 n).wf = true) ∧ Rd w 1 (some a) len cap (l.map iv) := by
  refine ⟨zs.take len, by simp; omega, fun n hn => hw n (List.mem_of_mem_take hn), ?_⟩
  refine ⟨by simp; omega, hl, hm, fun hp => ?_⟩
  obtain ⟨b, off, spot⟩ := a
  have h0 := hc 0 (by simp at hp; omega)
  have hspot : spot = none := by simpa [Addr.add] using World.cell?_spot h0
  subst hspot
  refine ⟨b, off, rfl, fun j v hv => ?_⟩
  simp only [List.getElem?_map, Option.map_eq_some_iff] at hv
  obtain ⟨n, hn, rfl⟩ := hv
  rw [List.getElem?_take] at hn
  split at hn
  · have hj : j < zs.length := (List.getElem?_eq_some_iff.1 hn).1
    have h1 := hc j hj
    rw [List.getD_eq_getElem?_getD, hn] at h1
    rcases Nat.eq_zero_or_pos j with e | e
    · subst e; simpa [Addr.add, iv] using h1
    · simpa [Addr.add, Nat.ne_of_gt e, iv] using h1
  · cases hn
end Go.Proofs.Ytglkfabjholnaaa
