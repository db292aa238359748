/- The landed store: Copy. -/
import Derived.Test.YtnadgdjaldemhaaGreatDoorQSta
import Derived.Test.YtnadgdjaldemhaaGreatDoorGQ
import Derived.Test.YtnadgdjaldemhaaGreatDoorGEE
import Derived.Deep.RegionHeldLaw
import Derived.Deep.CutBlock
import Derived.Deep.CutRange
namespace Go.Proofs.YtnadgdjaldemhaaGreatDoor
open Go.RowKit
theorem map_len {α β : Type} {f : α → β} {l : List α} {m : List β} (h : l.map f = m) : l.length = m.length := by rw [← h, List.length_map]
/-- a block of blobs, known whole, as new blobs -/
theorem kb_new {w : World} {base g : Nat} {t : TypeId} {hs : List (Bl × Hd)} {l : List Bl} (h : KB w base g t hs) (hm : hs.map Prod.fst = l) (hx : l.length ≤ maxLen) : KNew kBl w base (some ⟨g, 0, none⟩) l.length l.length l := by
  obtain rfl := hm
  rw [List.length_map] at hx ⊢
  obtain ⟨A, c, q, hN⟩ := (h.kh hx).own.new
  injection q with q1 q2 q3
  subst q1; subst q3
  rw [List.length_map] at hN
  exact hN
set_option maxRecDepth 100000 in
set_option maxHeartbeats 2000000 in
theorem lCopyO {A B : Option Addr} {n c m k : Nat} {s : Sto} {w : World} (h : StA w A B n c m k s) :
    Calls Tryz.prog 27 #[.agg #[.slice A n c, .slice B m k, .int .i64 s.rm, .int .i64 s.ck]] w (GivesStoO s w) := by
  obtain ⟨l, es, rm, ck⟩ := s
  obtain ⟨-, hr, he, -, -, hgl, hge, hz, hz2⟩ := h
  simp only at hr he hgl hge ⊢
  have hx1 : l.length ≤ maxLen := by have h1 := hr.len; have h2 := hr.cap; omega
  have hx2 : es.length ≤ maxLen := by have h1 := he.len; have h2 := he.cap; omega
  have hal := ((Below.refl w.heap.size w).alloc (Nat.le_refl _) (.cells #[.slice A n c, .slice B m k, .int .i64 rm, .int .i64 ck] 28)).alloc (by simp) (.cells #[.slice none 0 0, .slice none 0 0, .int .i64 0, .int .i64 0] 28)
  have hb1 := (Blk.new w 28 [.slice A n c, .slice B m k, .int .i64 rm, .int .i64 ck]).alloc (.cells #[.slice none 0 0, .slice none 0 0, .int .i64 0, .int .i64 0] 28)
  have hb2 := Blk.new (w.alloc (.cells #[.slice A n c, .slice B m k, .int .i64 rm, .int .i64 ck] 28)) 28 [.slice none 0 0, .slice none 0 0, .int .i64 0, .int .i64 0]
  have hsz : (w.alloc (.cells #[.slice A n c, .slice B m k, .int .i64 rm, .int .i64 ck] 28)).heap.size = w.heap.size + 1 := by simp
  rw [hsz] at hb2
  have hr0 := hr.below hal
  clear hsz
  go_enter Tryz.func27, Tryz.ntmps27
  go_upto_region 1 with fail
  generalize hu : (w.alloc (.cells [Value.slice A n c, Value.slice B m k, Value.int .i64 rm, Value.int .i64 ck].toArray 28)).alloc (.cells [Value.slice none 0 0, Value.slice none 0 0, Value.int .i64 0, Value.int .i64 0].toArray 28) = u at *
  clear hu
  have hsu : w.heap.size + 2 ≤ u.heap.size := by have := hb2.lt; omega
  have hne : w.heap.size + 1 ≠ w.heap.size := by omega
  obtain ⟨a0, a1, a2, a3⟩ := blk4 hb1
  have HC := Lib.hid (bcopy_any A n c l u hr0 hgl hz)
  go_wp2_with fail
  with_reducible refine HC.out.mono ?_
  rintro e w1 ⟨g1, hs1, rfl, hm1, hkb1, hc1⟩
  have hz1 := hc1.size
  have k1 := hb1.below hc1 hb1.lt
  have j1 := hb2.below hc1 hb2.lt
  have hbA := below_step hal hc1
  have hl1 := map_len hm1
  have hO1 := (hkb1.kh (by omega)).own
  rw [hm1, hl1] at hO1
  obtain ⟨y0, -, -, -⟩ := blk4z k1
  obtain ⟨x0, -, -, -⟩ := blk4 k1
  have kA := k1.put 0 (.slice (some ⟨g1, 0, none⟩) l.length l.length)
  have jA := j1.far (p := ⟨w.heap.size, 0, none⟩) hne (.slice (some ⟨g1, 0, none⟩) l.length l.length)
  have hbA' := hbA.setCell (p := ⟨w.heap.size, 0, none⟩) (Nat.le_refl _) (.slice (some ⟨g1, 0, none⟩) l.length l.length)
  simp only [List.set_cons_zero] at kA
  have HE := Lib.hid (icopy_any B m k es _ (he.below hbA') hge hz2)
  clear hb1 hb2 hal hr0 hr he HC a0 a1 a2 a3 k1 j1 hkb1 hbA
  obtain ⟨a0, a1, a2, a3⟩ := blk4 kA
  go_wp2_with fail
  with_reducible refine HE.out.mono ?_
  rintro e w2 ⟨g2, hs2, rfl, hm2, hke2, hc2⟩
  have hz2' := hc2.size
  have k2 := kA.below hc2 kA.lt
  have j2 := jA.below hc2 jA.lt
  have hbB := below_step hbA' hc2
  have hl2 := map_len hm2
  have hO2 := (hke2.kh (by omega)).own
  rw [hm2, hl2] at hO2
  obtain ⟨-, y1, -, -⟩ := blk4z k2
  obtain ⟨-, x1, -, -⟩ := blk4 k2
  have kB := k2.put 1 (.slice (some ⟨g2, 0, none⟩) es.length es.length)
  have jB := j2.far (p := ⟨w.heap.size, 1, none⟩) hne (.slice (some ⟨g2, 0, none⟩) es.length es.length)
  simp only [List.set_cons_succ, List.set_cons_zero] at kB
  clear a0 a1 a2 a3 kA jA k2 j2 HE hke2
  obtain ⟨a0, a1, a2, a3⟩ := blk4 kB
  obtain ⟨b0, b1, b2, b3⟩ := blk4 jB
  obtain ⟨c0, c1, c2, c3⟩ := blk4z jB
  have HJ := Lib.hid (jB.put4s (.slice (some ⟨g1, 0, none⟩) l.length l.length) (.slice (some ⟨g2, 0, none⟩) es.length es.length) (.int .i64 rm) (.int .i64 ck))
  go_wp2
  refine bodyPost_ret (results_cell_row rfl _ _ (w.heap.size + 1) 28 _ (0, 0) _ rfl HJ.out Tryz.underlying28 rfl store_size) rfl ?_
  obtain ⟨hg1, hup⟩ := (hO1.rebase (base' := w.heap.size + 2) hsu).upto
  have hs1' : (w1.setCell ⟨w.heap.size, 0, none⟩ (.slice (some ⟨g1, 0, none⟩) l.length l.length)).heap.size = w1.heap.size := by simp
  rw [hs1'] at hz2' hO2 hc2
  have hkeep : ∀ k, w.heap.size + 2 ≤ k → k < w1.heap.size → (((((w2.setCell ⟨w.heap.size, 1, none⟩ (.slice (some ⟨g2, 0, none⟩) es.length es.length)).setCell ⟨w.heap.size + 1, 0, none⟩ (.slice (some ⟨g1, 0, none⟩) l.length l.length)).setCell ⟨w.heap.size + 1, 1, none⟩ (.slice (some ⟨g2, 0, none⟩) es.length es.length)).setCell ⟨w.heap.size + 1, 2, none⟩ (.int .i64 rm)).setCell ⟨w.heap.size + 1, 3, none⟩ (.int .i64 ck)).heap[k]? = w1.heap[k]? := fun k k1 k2 => by
    have e1 : k ≠ w.heap.size + 1 := by omega
    have e2 : k ≠ w.heap.size := by omega
    rw [Below.heap_setCell _ ⟨w.heap.size + 1, 3, none⟩ _ _ e1, Below.heap_setCell _ ⟨w.heap.size + 1, 2, none⟩ _ _ e1, Below.heap_setCell _ ⟨w.heap.size + 1, 1, none⟩ _ _ e1, Below.heap_setCell _ ⟨w.heap.size + 1, 0, none⟩ _ _ e1, Below.heap_setCell _ ⟨w.heap.size, 1, none⟩ _ _ e2, hc2.block k k2, Below.heap_setCell _ ⟨w.heap.size, 0, none⟩ _ _ e2]
  refine ⟨_, _, w1.heap.size, rfl, hup _ (by simp; omega) hkeep, (hO2.set1 (by omega) _).set4s (by omega) _ _ _ _, by omega, hg1, fun w3 h1 h2 => hup w3 (by simp at h1; omega) fun k k1 k2 => by rw [h2 k k1 k2]; exact hkeep k k1 k2, below4s (hbB.setCell (p := ⟨w.heap.size, 1, none⟩) (Nat.le_refl _) _) (by omega) _ _ _ _⟩
theorem lCopy_any {A B : Option Addr} {n c m k : Nat} {s : Sto} {w : World} (h : StA w A B n c m k s) :
    Calls Tryz.prog 27 #[.agg #[.slice A n c, .slice B m k, .int .i64 s.rm, .int .i64 s.ck]] w (GivesSto s w) :=
  (lCopyO h).mono fun _ _ h => h.sto
end Go.Proofs.YtnadgdjaldemhaaGreatDoor
