/- The law StoreGetsBlob: the walk. -/
import Derived.Test.YtnadgdjaldemhaaDoorQL6
import Derived.Test.YtnadgdjaldemhaaDoorQZgb
import Derived.Test.YtnadgdjaldemhaaDoorGR
namespace Go.Proofs.YtnadgdjaldemhaaDoor
open Go.RowKit
set_option maxRecDepth 100000 in
set_option maxHeartbeats 1000000 in
theorem storeGetsBlob_walk (A B : Option Addr) (n c m k : Nat) (s : Sto) (dg : List UInt8) (w : World) (h : StA w A B n c m k s) (hdl : dg.length ≤ maxLen) :
    Calls Tryd.prog 5 #[.agg #[.slice A n c, .slice B m k, .int .i64 s.rm, .int .i64 s.ck], .string (str dg)] w fun e w' => e = .returned (.bool true) ∧ Below w.heap.size w w' := by
  have hal := (Below.refl w.heap.size w).alloc (Nat.le_refl _) (.cells #[.slice A n c, .slice B m k, .int .i64 s.rm, .int .i64 s.ck] 25)
  have hb1 := Blk.new w 25 [.slice A n c, .slice B m k, .int .i64 s.rm, .int .i64 s.ck]
  have HL := Lib.hid (lGetBlob_any (h.below hal) hdl)
  have HR := Lib.hid (fun (W : World) (hw : Below w.heap.size w W) => storeGetBlob_any A B n c m k s.bs s.es s.rm s.ck dg W (h.hr.below hw) (h.he.below hw) h.hgl h.hge)
  obtain ⟨l, es, rm, ck⟩ := s
  simp only at hal hb1 HL HR ⊢
  obtain ⟨⟨E, g⟩, hX⟩ : ∃ x, sGetBlob ⟨l, es, rm, ck⟩ dg = x := ⟨_, rfl⟩
  rw [hX] at HL HR
  obtain ⟨a0, a1, a2, a3⟩ := blk4 hb1
  clear hX h
  go_enter Tryd.func5, Tryd.ntmps5
  go_wp2_with fail
  with_reducible refine HL.out.mono ?_
  rintro e w2 ⟨A2, n2, c2, rfl, hP2, -, hc2⟩
  have k2 := hb1.below hc2 hb1.lt
  have hbB := below_step hal hc2
  clear HL hb1 hal a0 a1 a2 a3 hc2
  obtain ⟨a0, a1, a2, a3⟩ := blk4 k2
  go_wp2_with fail
  with_reducible refine (HR.out _ hbB).mono ?_
  rintro e w4 ⟨A4, n4, c4, rfl, hP4, -, hc4⟩
  have hbC := below_step hbB hc4
  have HS := Lib.hid (sameBytes_eq A2 A4 _ _ c2 c4 g _ (hP2.below hc4) hP4)
  have q2 : (E == E) = true := by simp
  clear HR hP2 hP4 hc4 hbB a0 a1 a2 a3 k2
  go_wp2_with fail
  with_reducible refine HS.out.mono ?_
  rintro e w6 ⟨rfl, rfl⟩
  go_wp2
  go_ret
  exact ⟨by simp, hbC⟩
end Go.Proofs.YtnadgdjaldemhaaDoor
