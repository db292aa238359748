/- A slice that came in is no longer than its bulk. -/
import Derived.Test.YtkjgpljkmhjclaaQOb
namespace Go.Proofs.Ytkjgpljkmhjclaa
open Go.RowKit
theorem bulk_sl {H : Type} {enc : TypeId × Value → H} {W : World} {t e : TypeId} (ht : Try.prog.underlying t = some (.slice e)) {A : Option Addr} {n c : Nat} {d : DataW H} {p : List MemPlace} (h : DataW.Trod enc Try.prog W 0 (fun _ => true) true t (.slice A n c) d p) : n ≤ Rows.uptoBulk d := by
  obtain ⟨fuel, hf⟩ := h
  rw [show (Value.slice A n c).cells.toList = [.slice A n c] from rfl] at hf
  rcases Deep.open_slice ht hf with ⟨e1, hx⟩ | ⟨a, len, cap, m, nn, D, Pl, e1, hb, hl, hm, hmm, hx, _⟩
  · simp only [List.cons.injEq, Value.slice.injEq, and_true] at e1
    obtain ⟨_, rfl, _⟩ := e1
    exact Nat.zero_le _
  · simp only [List.cons.injEq, Value.slice.injEq, and_true] at e1
    obtain ⟨rfl, rfl, rfl⟩ := e1
    have hlm : n ≤ m := by rw [hmm]; split <;> omega
    have e2 : d = (d, p).1 := rfl
    rw [e2, hx]
    simp only [Rows.uptoBulk]
    have h1 := bulk_len ((List.range n).map D)
    rw [List.length_map, List.length_range] at h1
    omega
set_option maxRecDepth 100000 in
/-- the blobs of a store that came in are at most its bulk -/
theorem bulk_storeN {H : Type} {enc : TypeId × Value → H} {W : World} {r : Reach} {b0 : Nat} {A B : Option Addr} {n c m k : Nat} {rm ck : Int} {d : DataW H} {p : List MemPlace} (hv : Value.okWide Try.prog W r b0 34 (.agg #[.slice A n c, .slice B m k, .int .i64 rm, .int .i64 ck])) (h : DataW.Trod enc Try.prog W 0 (fun _ => true) true 34 (.agg #[.slice A n c, .slice B m k, .int .i64 rm, .int .i64 ck]) d p) : n ≤ Rows.uptoBulk d := by
  obtain ⟨v0, v1, v2, v3, y0, y1, y2, y3, nn, hvv, hd, _, g0, g1, g2, g3⟩ := Go.Joins.open_agg4 Try.underlying34 (by kernel_rfl) (by kernel_rfl) hv h
  simp only [Value.agg.injEq, Array.mk.injEq, List.cons.injEq, and_true] at hvv
  obtain ⟨rfl, rfl, rfl, rfl⟩ := hvv
  have h1 := bulk_sl (enc := enc) (W := W) (A := A) (n := n) (c := c) (d := y0.1) (p := y0.2) Try.underlying29 ⟨_, g0⟩
  rw [hd]
  simp only [Rows.uptoBulk, Rows.uptoBulkAll]
  omega
end Go.Proofs.Ytkjgpljkmhjclaa
