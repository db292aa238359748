/- The law IndexPuts: the walk. -/
import Derived.Test.YtfleegidlncmjaaGEE
import Derived.Test.YtfleegidlncmjaaGY
import Derived.Test.YtfleegidlncmjaaQXs
namespace Go.Proofs.Ytfleegidlncmjaa
open Go.RowKit
set_option maxRecDepth 100000 in
set_option maxHeartbeats 1000000 in
theorem indexPuts_walk (A : Option Addr) (n c : Nat) (l : List En) (x : En) (h : Hd) (w : World) (hr : KRd kEn w A n c l) (hg : ∀ p ∈ l, p.good) (hx : kEn.deep w x h) (hxg : x.good) :
    Calls Try.prog 4 #[.slice A n c, .agg #[.string (str x.ky), .slice h.A h.n h.c, .int .i64 x.pn, .int .i64 x.st]] w fun e w' => e = .returned (.bool true) ∧ Below w.heap.size w w' := by
  obtain ⟨er, L, hE⟩ : ∃ er L, xPut l x = (er, L) := ⟨_, _, rfl⟩
  have h1 : ∀ W : World, Below w.heap.size w W → Calls Try.prog 13 #[.slice A n c, .agg #[.string (str x.ky), .slice h.A h.n h.c, .int .i64 x.pn, .int .i64 x.st]] W (GivesEs L er W) := fun W hW => by
    have := iput_any A n c l x h W (hr.below hW) hg (kEn.keep hx fun k _ hk => hW.block k hk) hxg
    rwa [hE] at this
  have h2 : ∀ W : World, Below w.heap.size w W → Calls Try.prog 14 #[.slice A n c, .agg #[.string (str x.ky), .slice h.A h.n h.c, .int .i64 x.pn, .int .i64 x.st]] W (GivesEs L er W) := fun W hW => by
    have := entriesPut_any A n c l x h W (hr.below hW) hg (kEn.keep hx fun k _ hk => hW.block k hk) hxg
    rwa [hE] at this
  have H1 := Lib.hid h1
  have H2 := Lib.hid h2
  have q2 : (er == er) = true := by simp
  clear h1 h2 hr hx hE hxg
  obtain ⟨ky, ps, pn, st⟩ := x
  have hal := (Below.refl w.heap.size w).alloc (Nat.le_refl _) (.cells #[.string (str ky), .slice h.A h.n h.c, .int .i64 pn, .int .i64 st] 28)
  have hbk := Blk.new w 28 [.string (str ky), .slice h.A h.n h.c, .int .i64 pn, .int .i64 st]
  go_enter Try.func4, Try.ntmps4
  go_wp2_with fail
  with_reducible refine (H1.out _ hal).mono ?_
  rintro e w1 ⟨A1, n1, c1, rfl, hN1, hb1⟩
  have hk1 := hbk.below hb1 hbk.lt
  have hbA := below_step hal hb1
  have e0 := hk1.cell 0
  have e1 := hk1.cell 1
  have e2 := hk1.cell 2
  have e3 := hk1.cell 3
  simp only [List.getElem?_cons_succ, List.getElem?_cons_zero] at e0 e1 e2 e3
  go_wp2_with fail
  with_reducible refine (H2.out _ hbA).mono ?_
  rintro e w2 ⟨A2, n2, c2, rfl, hN2, hb2⟩
  have hbB := below_step hbA hb2
  have r1 := hN1.rd.below hb2
  have r2 := hN2.rd
  clear hN1 hN2 hb1 hb2
  go_wp2_with fail
  with_reducible refine (sameEntries_eq _ _ _ _ _ _ _ _ r1 r2).mono ?_
  rintro e w3 ⟨rfl, hb3⟩
  go_wp2
  go_ret
  exact ⟨by simp, below_step hbB hb3⟩
end Go.Proofs.Ytfleegidlncmjaa
