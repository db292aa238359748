/- append(b, make([]byte, k)...) where b is full: a new row. Nothing of the program. -/
import Derived.Test.YtbadpiennobdmaaDoorApp
import Derived.Deep.AppendSrc
namespace Go.Proofs.YtbadpiennobdmaaDoor
open Go.RowKit
section
variable {P : Program}
theorem run_appendM {t ti ty e : TypeId} {i : TypeInfo} {z : Value} (ht : P.underlying t = some (.slice e)) (hti : P.underlying ti = some (.int .i64)) (hi : P.info? e = some i) (hz : i.zero = some z) (hs : i.size = 1) (hb : i.bytes = 1)
    (w : World) (g n k : Nat) (xs : List Value) (hr : Rd w 1 (some ⟨g, 0, none⟩) n n xs) (hk : 1 ≤ k) (hsm : n + k ≤ 4096) :
    ∃ c w', (Builtin.append_ #[t, ti] ty #[.slice (some ⟨g, 0, none⟩) n n, .int .i64 (k : Int)]).run P w = .ok (.slice (some ⟨w.heap.size, 0, none⟩) (n + k) c) w' ∧ Below w.heap.size w w' := by
  have hn : ¬ (n + k ≤ n) := by omega
  have hw : IntKind.i64.wrap (k : Int) = (k : Int) := by rw [IntKind.wrap_i64]; omega
  have h0 : ¬ ((k : Int) < 0) := by omega
  have h48a : ¬ (281474976710656 < (k : Int)) := by omega
  have h63 : ¬ (9223372036854775807 < ((n : Int) + (k : Int))) := by omega
  have hold : (loadCells ⟨g, 0, none⟩ n).run P w.drew = .ok xs.toArray w.drew := by
    have hl : xs.length = n := by simpa using hr.1
    rw [← hl]
    refine run_loadCells_list (P := P) w.drew ⟨g, 0, none⟩ xs fun j v hj => ?_
    obtain ⟨b, off, h1, hc⟩ := hr.at hj
    injection h1 with h1
    injection h1 with h1 h2
    subst h1; subst h2
    rw [show (⟨g, 0, none⟩ : Addr).add j = ⟨g, 0 + j, none⟩ from by unfold Addr.add; split <;> simp_all]
    exact hc
  have hcap : Builtin.nextslicecap (n + k) n ≤ 281474976710656 := by
    unfold Builtin.nextslicecap
    have hgrow : ∀ r c, c ≤ 2000000 → Builtin.growBy (n + k) r c ≤ 2000000 * 4 ^ r := by
      intro r
      induction r with
      | zero => intro c h; simpa [Builtin.growBy] using h
      | succ r ih =>
        intro c h
        unfold Builtin.growBy
        split
        · have : 1 ≤ 4 ^ (r + 1) := Nat.pow_pos (by omega)
          have := Nat.mul_le_mul_left 2000000 this
          omega
        · rename_i hlt
          have := ih (c + (c + 768) / 4) (by omega)
          have h4 : 4 ^ r ≤ 4 ^ (r + 1) := Nat.pow_le_pow_right (by omega) (by omega)
          have := Nat.mul_le_mul_left 2000000 h4
          omega
    split
    · omega
    · split
      · omega
      · exact Nat.le_trans (hgrow 4 n (by omega)) (by decide)
  have h48' : ¬ (281474976710656 < Builtin.nextslicecap (n + k) n) := by omega
  have hk0 : ¬ k = 0 := by omega
  have hai : ∀ w : World, (asIntOf (.int .i64 (k : Int))).run P w = .ok (.i64, (k : Int)) w := fun _ => rfl
  refine ⟨grownCap w (n + k) n e, w.drew.alloc (.cells (xs.toArray ++ Builtin.zeroCells z.cells k ++ Builtin.zeroCells z.cells (grownCap w (n + k) n e - (n + k))) e), ?_, (Below.refl _ _).drew.alloc (Nat.le_refl _) _⟩
  simp [Builtin.append_, run_underlying ht, run_underlying hti, sizeOf, typeInfo, zeroValue, hi, hz, hs, hb, asInt, hai, hw, h0, h48a, hn, h63, h48', Question.forced, Builtin.firstCells, hold, newRow, grownCap, hk0]
theorem wpList_appendM {ops : Array Oper} {rest : List Oper} {o : Oper} {a : Act} {Q : Exit → Act → World → Prop} (hgd : o.guard = none) (s x : Operand) (t ti : TypeId)
    (ho : o.op = .call { callee := .builtin .append, args := #[s, x], argTypes := #[t, ti] })
    {e : TypeId} {i : TypeInfo} {z : Value} (ht : P.underlying t = some (.slice e)) (hti : P.underlying ti = some (.int .i64)) (hi : P.info? e = some i) (hz : i.zero = some z) (hs : i.size = 1) (hb : i.bytes = 1)
    {w : World} (g n k : Nat) (xs : List Value) (hv : a.eval s = .slice (some ⟨g, 0, none⟩) n n) (hx : a.eval x = .int .i64 (k : Int)) (hr : Rd w 1 (some ⟨g, 0, none⟩) n n xs) (hk : 1 ≤ k) (hsm : n + k ≤ 4096)
    (h : ∀ g' c w', Below w.heap.size w w' → wpList P ops Q rest (a.put o.dst (.slice (some ⟨g', 0, none⟩) (n + k) c)) w') :
    wpList P ops Q (o :: rest) a w := by
  obtain ⟨c, w', hrun, hbel⟩ := run_appendM (P := P) (ty := o.type) ht hti hi hz hs hb w g n k xs hr hk hsm
  refine wpList_plain hgd fun _ hK => ?_
  unfold Oper.wp execOp
  simp only [ho, resolve, invoke, builtin, Sem.run_bind, Sem.run_pure, Result.andThen_ok, List.map_toArray, List.map_cons, List.map_nil, hv, hx, hrun]
  exact hK _ _ (h _ c w' hbel)
end
end Go.Proofs.YtbadpiennobdmaaDoor
