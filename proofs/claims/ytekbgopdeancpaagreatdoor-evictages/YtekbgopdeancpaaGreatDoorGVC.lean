/- Texts that belong together: what the functions of the program and of the statements return. -/
import Derived.Test.YtekbgopdeancpaaGreatDoorGSC
import Derived.Test.YtekbgopdeancpaaGreatDoorGVB
import Derived.Test.YtekbgopdeancpaaGreatDoorGP
import Derived.Test.YtekbgopdeancpaaGreatDoorGO
import Derived.IntWalk
import Derived.Deep.CutBlock
import Derived.Deep.CutRange
import Derived.Shelf.SlSorted.Search
import Derived.Test.YtekbgopdeancpaaGreatDoorGEE
import Derived.Test.YtekbgopdeancpaaGreatDoorQZg
import Derived.Test.YtekbgopdeancpaaGreatDoorGVA
import Derived.Test.YtekbgopdeancpaaGreatDoorGSB
import Derived.Test.YtekbgopdeancpaaGreatDoorGRD
import Derived.Test.YtekbgopdeancpaaGreatDoorGRC
import Derived.Test.YtekbgopdeancpaaGreatDoorQTc
import Derived.Test.YtekbgopdeancpaaGreatDoorGRB
import Derived.Deep.RegionHeldLaw
import Derived.Test.YtekbgopdeancpaaGreatDoorGW
/- The landed store: Copy, its rows known whole. -/
namespace Go.Proofs.YtekbgopdeancpaaGreatDoor
open Go.RowKit
/-- a store in memory of the call's own, handed back -/
def GivesStoK (s : Sto) (w : World) (e : Ending) (w' : World) : Prop :=
  ∃ M g1 g2 hs1 hs2, e = .returned (.agg #[.slice (some ⟨g1, 0, none⟩) s.bs.length s.bs.length, .slice (some ⟨g2, 0, none⟩) s.es.length s.es.length, .int .i64 s.rm, .int .i64 s.ck]) ∧ hs1.map Prod.fst = s.bs ∧ hs2.map Prod.fst = s.es ∧
    M ≤ w'.heap.size ∧ OSt w' (w.heap.size + 2) M w'.heap.size g1 g2 s.bs.length s.es.length 43 54 hs1 [] hs2 [] ∧ Below w.heap.size w w'
set_option maxRecDepth 100000 in
set_option maxHeartbeats 2000000 in
theorem lCopyK {A B : Option Addr} {n c m k : Nat} {s : Sto} {w : World} (h : StA w A B n c m k s) (h24 : s.bs.length ≤ 24) (h10 : s.es.length ≤ 10) :
    Calls Tryz.prog 34 #[.agg #[.slice A n c, .slice B m k, .int .i64 s.rm, .int .i64 s.ck]] w (GivesStoK s w) := by
  obtain ⟨l, es, rm, ck⟩ := s
  obtain ⟨-, hr, he, -, -, hgl, hge, hz, hz2⟩ := h
  simp only at hr he hgl hge h24 h10 ⊢
  have hx1 : l.length ≤ maxLen := by have h1 := hr.len; have h2 := hr.cap; omega
  have hx2 : es.length ≤ maxLen := by have h1 := he.len; have h2 := he.cap; omega
  have hal := ((Below.refl w.heap.size w).alloc (Nat.le_refl _) (.cells #[.slice A n c, .slice B m k, .int .i64 rm, .int .i64 ck] 25)).alloc (by simp) (.cells #[.slice none 0 0, .slice none 0 0, .int .i64 0, .int .i64 0] 25)
  have hb1 := (Blk.new w 25 [.slice A n c, .slice B m k, .int .i64 rm, .int .i64 ck]).alloc (.cells #[.slice none 0 0, .slice none 0 0, .int .i64 0, .int .i64 0] 25)
  have hb2 := Blk.new (w.alloc (.cells #[.slice A n c, .slice B m k, .int .i64 rm, .int .i64 ck] 25)) 25 [.slice none 0 0, .slice none 0 0, .int .i64 0, .int .i64 0]
  have hsz : (w.alloc (.cells #[.slice A n c, .slice B m k, .int .i64 rm, .int .i64 ck] 25)).heap.size = w.heap.size + 1 := by simp
  rw [hsz] at hb2
  have hr0 := hr.below hal
  clear hsz
  go_enter Tryz.func34, Tryz.ntmps34
  go_upto_region 1 with fail
  generalize hu : (w.alloc (.cells [Value.slice A n c, Value.slice B m k, Value.int .i64 rm, Value.int .i64 ck].toArray 25)).alloc (.cells [Value.slice none 0 0, Value.slice none 0 0, Value.int .i64 0, Value.int .i64 0].toArray 25) = u at *
  clear hu
  have hsu : w.heap.size + 2 ≤ u.heap.size := by have := hb2.lt; omega
  have hne : w.heap.size + 1 ≠ w.heap.size := by omega
  obtain ⟨a0, a1, a2, a3⟩ := blk4 hb1
  have HC := Lib.hid (bcopy_any A n c l u hr0 hgl hz)
  go_wp2_with fail
  with_reducible refine HC.out.mono ?_
  rintro e w1 ⟨g1, hs1, rfl, hm1, hkb1, hc1⟩
  have hz1 := hc1.size
  have k1 := hb1.below hc1 hb1.lt
  have j1 := hb2.below hc1 hb2.lt
  have hbA := below_step hal hc1
  have hl1 := map_len hm1
  have hO1 := (hkb1.kh (by omega)).own
  rw [hm1, hl1] at hO1
  obtain ⟨y0, -, -, -⟩ := blk4z k1
  obtain ⟨x0, -, -, -⟩ := blk4 k1
  have kA := k1.put 0 (.slice (some ⟨g1, 0, none⟩) l.length l.length)
  have jA := j1.far (p := ⟨w.heap.size, 0, none⟩) hne (.slice (some ⟨g1, 0, none⟩) l.length l.length)
  have hbA' := hbA.setCell (p := ⟨w.heap.size, 0, none⟩) (Nat.le_refl _) (.slice (some ⟨g1, 0, none⟩) l.length l.length)
  simp only [List.set_cons_zero] at kA
  have HE := Lib.hid (icopy_any B m k es _ (he.below hbA') hge hz2)
  clear hb1 hb2 hal hr0 hr he HC a0 a1 a2 a3 k1 j1 hbA
  obtain ⟨a0, a1, a2, a3⟩ := blk4 kA
  go_wp2_with fail
  with_reducible refine HE.out.mono ?_
  rintro e w2 ⟨g2, hs2, rfl, hm2, hke2, hc2⟩
  have hz2' := hc2.size
  have k2 := kA.below hc2 kA.lt
  have j2 := jA.below hc2 jA.lt
  have hbB := below_step hbA' hc2
  have hl2 := map_len hm2
  have hO2 := (hke2.kh (by omega)).own
  rw [hm2, hl2] at hO2
  obtain ⟨-, y1, -, -⟩ := blk4z k2
  obtain ⟨-, x1, -, -⟩ := blk4 k2
  have kB := k2.put 1 (.slice (some ⟨g2, 0, none⟩) es.length es.length)
  have jB := j2.far (p := ⟨w.heap.size, 1, none⟩) hne (.slice (some ⟨g2, 0, none⟩) es.length es.length)
  simp only [List.set_cons_succ, List.set_cons_zero] at kB
  clear a0 a1 a2 a3 kA jA k2 j2 HE
  obtain ⟨a0, a1, a2, a3⟩ := blk4 kB
  obtain ⟨b0, b1, b2, b3⟩ := blk4 jB
  obtain ⟨c0, c1, c2, c3⟩ := blk4z jB
  have HJ := Lib.hid (jB.put4s (.slice (some ⟨g1, 0, none⟩) l.length l.length) (.slice (some ⟨g2, 0, none⟩) es.length es.length) (.int .i64 rm) (.int .i64 ck))
  go_wp2
  refine bodyPost_ret (results_cell_row rfl _ _ (w.heap.size + 1) 25 _ (0, 0) _ rfl HJ.out Tryz.underlying25 rfl store_size) rfl ?_
  have hs1' : (w1.setCell ⟨w.heap.size, 0, none⟩ (.slice (some ⟨g1, 0, none⟩) l.length l.length)).heap.size = w1.heap.size := by simp
  rw [hs1'] at hz2' hO2 hc2 hke2
  have hkeep : ∀ k, w.heap.size + 2 ≤ k → k < w1.heap.size → (((((w2.setCell ⟨w.heap.size, 1, none⟩ (.slice (some ⟨g2, 0, none⟩) es.length es.length)).setCell ⟨w.heap.size + 1, 0, none⟩ (.slice (some ⟨g1, 0, none⟩) l.length l.length)).setCell ⟨w.heap.size + 1, 1, none⟩ (.slice (some ⟨g2, 0, none⟩) es.length es.length)).setCell ⟨w.heap.size + 1, 2, none⟩ (.int .i64 rm)).setCell ⟨w.heap.size + 1, 3, none⟩ (.int .i64 ck)).heap[k]? = w1.heap[k]? := fun k k1 k2 => by
    have e1 : k ≠ w.heap.size + 1 := by omega
    have e2 : k ≠ w.heap.size := by omega
    rw [Below.heap_setCell _ ⟨w.heap.size + 1, 3, none⟩ _ _ e1, Below.heap_setCell _ ⟨w.heap.size + 1, 2, none⟩ _ _ e1, Below.heap_setCell _ ⟨w.heap.size + 1, 1, none⟩ _ _ e1, Below.heap_setCell _ ⟨w.heap.size + 1, 0, none⟩ _ _ e1, Below.heap_setCell _ ⟨w.heap.size, 1, none⟩ _ _ e2, hc2.block k k2, Below.heap_setCell _ ⟨w.heap.size, 0, none⟩ _ _ e2]
  have hkeep2 : ∀ k, w1.heap.size ≤ k → k < w2.heap.size → (((((w2.setCell ⟨w.heap.size, 1, none⟩ (.slice (some ⟨g2, 0, none⟩) es.length es.length)).setCell ⟨w.heap.size + 1, 0, none⟩ (.slice (some ⟨g1, 0, none⟩) l.length l.length)).setCell ⟨w.heap.size + 1, 1, none⟩ (.slice (some ⟨g2, 0, none⟩) es.length es.length)).setCell ⟨w.heap.size + 1, 2, none⟩ (.int .i64 rm)).setCell ⟨w.heap.size + 1, 3, none⟩ (.int .i64 ck)).heap[k]? = w2.heap[k]? := fun k k1 k2 => by
    have e1 : k ≠ w.heap.size + 1 := by omega
    have e2 : k ≠ w.heap.size := by omega
    rw [Below.heap_setCell _ ⟨w.heap.size + 1, 3, none⟩ _ _ e1, Below.heap_setCell _ ⟨w.heap.size + 1, 2, none⟩ _ _ e1, Below.heap_setCell _ ⟨w.heap.size + 1, 1, none⟩ _ _ e1, Below.heap_setCell _ ⟨w.heap.size + 1, 0, none⟩ _ _ e1, Below.heap_setCell _ ⟨w.heap.size, 1, none⟩ _ _ e2]
  have hB1 : KB w1 (w.heap.size + 2) g1 43 hs1 := hkb1.low hsu
  refine ⟨w1.heap.size, g1, g2, hs1, hs2, rfl, hm1, hm2, by simp; omega, ?_, below4s (hbB.setCell (p := ⟨w.heap.size, 1, none⟩) (Nat.le_refl _) _) (by omega) _ _ _ _⟩
  refine ⟨?_, by rw [List.append_nil]; exact hl1, h24, ⟨hB1.blk.lt, fun x hx k hk => (((hB1.deep x (by simpa using hx)).2 k hk).2.1)⟩, ?_, by rw [List.append_nil]; exact hl2, h10, ⟨by have := hke2.blk.lt; simpa using this, fun x hx k hk => by have := ((hke2.deep x (by simpa using hx)).2 k hk).2.1; simpa using this⟩⟩
  · rw [List.append_nil]
    exact hB1.keepAt (by simp; omega) hkeep
  · rw [List.append_nil]
    exact hke2.keepAt (by simp) hkeep2
end Go.Proofs.YtekbgopdeancpaaGreatDoor
/- slices.DeleteFunc over blobs in a row that is known whole, whatever the closure. -/
namespace Go.Proofs.YtekbgopdeancpaaGreatDoor
open Go.RowKit Go.Shelf
theorem cells4 {w : World} {base g k : Nat} {t : TypeId} {cur : List (Bl × Hd)} (h : KB w base g t cur) (hk : k < cur.length) :
    (w.cell? ⟨g, k * 4, none⟩ = some (.string (str cur[k].1.dg)) ∧ w.cell? ⟨g, k * 4 + 1, none⟩ = some (.slice cur[k].2.A cur[k].2.n cur[k].2.c) ∧ w.cell? ⟨g, k * 4 + 2, none⟩ = some (.int .i64 cur[k].1.pn) ∧ w.cell? ⟨g, k * 4 + 3, none⟩ = some (.bool cur[k].1.mr)) ∧
    w.frozen? ⟨g, k * 4, none⟩ = false ∧ w.frozen? ⟨g, k * 4 + 1, none⟩ = false ∧ w.frozen? ⟨g, k * 4 + 2, none⟩ = false ∧ w.frozen? ⟨g, k * 4 + 3, none⟩ = false := by
  have q0 := kBl.all_at cur k hk 0 (by decide)
  have q1 := kBl.all_at cur k hk 1 (by decide)
  have q2 := kBl.all_at cur k hk 2 (by decide)
  have q3 := kBl.all_at cur k hk 3 (by decide)
  exact ⟨⟨(h.blk.cell (k * 4)).trans q0, (h.blk.cell (k * 4 + 1)).trans q1, (h.blk.cell (k * 4 + 2)).trans q2, (h.blk.cell (k * 4 + 3)).trans q3⟩, h.blk.frozen _, h.blk.frozen _, h.blk.frozen _, h.blk.frozen _⟩
/-- what the call leaves -/
def Kept (base g C : Nat) (hs zs : List (Bl × Hd)) (p : Bl → Bool) (w : World) (e : Ending) (w' : World) : Prop :=
  ∃ (hs' zs' : List (Bl × Hd)) (m : Nat), e = .returned (.slice (some ⟨g, 0, none⟩) m C) ∧ hs'.length = m ∧ hs'.map Prod.fst = (hs.map Prod.fst).filter (fun b => !p b) ∧ (hs' ++ zs').length = C ∧ (∀ x ∈ hs' ++ zs', x ∈ hs ++ zs ∨ x = zb) ∧ KB w' base g 43 (hs' ++ zs') ∧ Far g w w'
set_option maxRecDepth 100000 in
set_option maxHeartbeats 4000000 in
theorem deleteB_any (w : World) (base g : Nat) (hs zs : List (Bl × Hd)) (n C : Nat) (hn : hs.length = n) (hC : (hs ++ zs).length = C) (hC24 : C ≤ 24) (h : KB w base g 43 (hs ++ zs)) (p : Bl → Bool) (f : Nat) (lb : Array Value)
    (eg : ∀ args w, (callFunc f args).run Tryz.prog w = .ok (.enter f args) w)
    (hp : ∀ (W : World) (x : Bl × Hd), Far g w W → Calls Tryz.prog f (#[.agg (kBl.cells x.1 x.2).toArray] ++ lb) W fun e w' => e = .returned (.bool (p x.1)) ∧ Below W.heap.size W w') :
    Calls Tryz.prog 93 #[.slice (some ⟨g, 0, none⟩) n C, .func (.func f) #[] lb] w (Kept base g C hs zs p w) := by
  subst hn
  obtain ⟨j0, hj0, hw0, hw1, hw2⟩ := info_parts blob_info
  have hgl := h.blk.lt
  have hnC : hs.length ≤ C := by rw [List.length_append] at hC; omega
  have HI := Lib.hid (indexB_any _ _ _ _ w (h.rdPart rfl hC (by unfold maxLen; omega)) p f lb eg (fun W x hb => ((hp W x (Far.of hb hgl)).mono fun e w' ⟨h1, h2⟩ => ⟨h1, below_step hb h2⟩)))
  have HP := Lib.hid hp
  have HKB := Lib.hid h
  clear hp
  by_cases hit : (hs.map Prod.fst).findIdx p < hs.length
  · obtain ⟨K, hK⟩ : ∃ K, (hs.map Prod.fst).findIdx p = K := ⟨_, rfl⟩
    rw [hK] at hit
    have hplc : plc (hs.map Prod.fst) p = (K : Int) := by unfold plc; rw [List.length_map, hK, if_pos hit]
    rw [hplc] at HI
    have HST := Lib.hid (DelI.start (zs := zs) hK hit)
    have hne : ((K : Int) == -1) = false := by rw [beq_eq_false_iff_ne]; omega
    have hz : IntKind.i64.wrap ((K : Int) + 1) = (K : Int) + 1 := IntWalk.i64_in _ (by omega)
    clear hK hplc h
    go_enter Tryz.func93, Tryz.ntmps93
    go_wp2_with fail
    with_reducible refine HI.out.mono ?_
    rintro e w1 ⟨rfl, hb1⟩
    have HK1 := Lib.hid (HKB.out.below hb1)
    have HF1 := Lib.hid (Far.of hb1 hgl)
    clear hb1 HKB HI
    go_wp2
    go_loopw [5, 6] (fun s5 s6 wr => ∃ (i j : Nat) (cur : List (Bl × Hd)), s5 = .int .i64 (i : Int) ∧ s6 = .int .i64 (j : Int) ∧ DelI hs zs p i j cur ∧ KB wr base g 43 cur ∧ Far g w wr) (fun _ s6 _ => hs.length - (intOf s6).toNat)
    case atStart => exact ⟨K, K + 1, _, rfl, by go_num, HST.out, HK1.out, HF1.out⟩
    case round =>
      obtain ⟨i, j, cur, rfl, rfl, hD, hk, hf⟩ := hrel
      have hij := hD.lt
      by_cases hlt : j < hs.length
      · obtain ⟨hcj, hej⟩ := hD.at hlt
        have hci : i < cur.length := by omega
        obtain ⟨⟨c0, c1, c2, c3⟩, -⟩ := cells4 hk hcj
        rw [hej] at c0 c1 c2 c3
        have HKEEP := Lib.hid (fun q => hD.keep hlt q)
        have HSKIP := Lib.hid (fun q => hD.skip hlt q)
        have hx := hk.deep cur[j] (List.getElem_mem hcj)
        rw [hej] at hx
        have hjn : (j : Int) < (hs.length : Int) := by omega
        have hjC : (j : Int) < (C : Int) := by omega
        have hiC : (i : Int) < (C : Int) := by omega
        have hin : (i : Int) < (hs.length : Int) := by omega
        generalize hs[j] = x at *
        have hal := (Below.refl wr.heap.size wr).alloc (Nat.le_refl _) (.cells #[.string (str x.1.dg), .slice x.2.A x.2.n x.2.c, .int .i64 x.1.pn, .bool x.1.mr] 43)
        have hbk := Blk.new wr 43 [.string (str x.1.dg), .slice x.2.A x.2.n x.2.c, .int .i64 x.1.pn, .bool x.1.mr]
        have hgw := hk.blk.lt
        have hk2 := hk.below hal
        have hf2 := hf.trans (Far.of hal hgw)
        have hdx := kBl.keep (w' := wr.alloc (.cells #[.string (str x.1.dg), .slice x.2.A x.2.n x.2.c, .int .i64 x.1.pn, .bool x.1.mr] 43)) hx.1 fun k _ hk => hal.block k hk
        have hxb := hx.2
        have hne2 : wr.heap.size ≠ g := by omega
        go_upto_region 8 with fail
        generalize hw4 : wr.alloc (.cells [Value.string (str x.1.dg), .slice x.2.A x.2.n x.2.c, .int .i64 x.1.pn, .bool x.1.mr].toArray 43) = w4 at *
        clear hw4 c0 c1 c2 c3 hx hal hk hf
        have hz4 : wr.heap.size < w4.heap.size := hbk.lt
        obtain ⟨a0, a1, a2, a3⟩ : w4.cell? ⟨wr.heap.size, 0, none⟩ = some (.string (str x.1.dg)) ∧ w4.cell? ⟨wr.heap.size, 1, none⟩ = some (.slice x.2.A x.2.n x.2.c) ∧ w4.cell? ⟨wr.heap.size, 2, none⟩ = some (.int .i64 x.1.pn) ∧ w4.cell? ⟨wr.heap.size, 3, none⟩ = some (.bool x.1.mr) := ⟨hbk.cell 0, hbk.cell 1, hbk.cell 2, hbk.cell 3⟩
        have hc : Calls Tryz.prog f (#[.agg #[.string (str x.1.dg), .slice x.2.A x.2.n x.2.c, .int .i64 x.1.pn, .bool x.1.mr]] ++ lb) w4 fun e w' => e = .returned (.bool (p x.1)) ∧ Below w4.heap.size w4 w' := HP.out w4 x hf2
        cases hq : p x.1 with
        | true =>
          rw [hq] at hc
          have HD2 := Lib.hid (HSKIP.out hq)
          clear HKEEP HSKIP hq
          go_wp2_with (go_at_fn f; refine hc.mono ?_; rintro e w5 ⟨rfl, hb5⟩)
          go_roundw
          case rel => exact ⟨i, j + 1, cur, rfl, by go_num, HD2.out, hk2.below hb5, hf2.trans (Far.of hb5 hk2.blk.lt)⟩
          case measure => simp [intOf] <;> omega
        | false =>
          rw [hq] at hc
          have HD2 := Lib.hid (HKEEP.out hq)
          clear HKEEP HSKIP hq
          go_upto_region 8 with fail
          go_cut [5, 6, 7, 29] from 26 to 29 (fun s5 s6 s7 s29 wx => s5 = .int .i64 (i : Int) ∧ s6 = .int .i64 (j : Int) ∧ s7 = .pointer (some ⟨wr.heap.size, 0, none⟩) ∧ s29 = .bool true ∧ Below w4.heap.size w4 wx)
          case first =>
            go_wp2_with (go_at_fn f; refine hc.mono ?_; rintro e w5 ⟨rfl, hb5⟩)
            go_meet
            exact ⟨rfl, rfl, rfl, rfl, hb5⟩
          case rest =>
            obtain ⟨rfl, rfl, rfl, rfl, hb5⟩ := hcut
            rename World => w5
            have hk5 := hk2.below hb5
            have hbk5 := hbk.below hb5 hbk.lt
            have hf5 := hf2.trans (Far.of hb5 hk2.blk.lt)
            have hdx5 := kBl.keep (w' := w5) hdx fun k _ hk => hb5.block k hk
            obtain ⟨⟨e0, e1, e2, e3⟩, z0, z1, z2, z3⟩ := cells4 hk5 hci
            obtain ⟨b0, b1, b2, b3⟩ : w5.cell? ⟨wr.heap.size, 0, none⟩ = some (.string (str x.1.dg)) ∧ w5.cell? ⟨wr.heap.size, 1, none⟩ = some (.slice x.2.A x.2.n x.2.c) ∧ w5.cell? ⟨wr.heap.size, 2, none⟩ = some (.int .i64 x.1.pn) ∧ w5.cell? ⟨wr.heap.size, 3, none⟩ = some (.bool x.1.mr) := ⟨hbk5.cell 0, hbk5.cell 1, hbk5.cell 2, hbk5.cell 3⟩
            have hz5 := hb5.size
            have HK6 := Lib.hid (hk5.put i x hci ⟨hdx5, fun k hk => ⟨(hxb k hk).1, by have := (hxb k hk).2.1; omega, (hxb k hk).2.2⟩⟩)
            have HF6 := Lib.hid ((((hf5.cell (i * 4) (.string (str x.1.dg))).cell (i * 4 + 1) (.slice x.2.A x.2.n x.2.c)).cell (i * 4 + 2) (.int .i64 x.1.pn)).cell (i * 4 + 3) (.bool x.1.mr))
            generalize cur[i] = y at e0 e1 e2 e3
            clear hk5 hbk5 hf5 hdx5 hk2 hf2 hdx hbk a0 a1 a2 a3 hc hb5 hxb
            go_wp2
            go_roundw
            case rel => exact ⟨i + 1, j + 1, _, by go_num, by go_num, HD2.out, HK6.out, HF6.out⟩
            case measure => simp [intOf] <;> omega
      · have hjn : j = hs.length := by have := hD.le; omega
        subst hjn
        obtain ⟨d1, d2, d3, d4, d5⟩ := hD.done
        have hcl := hD.len
        have hd2 : decide ((hs.length : Int) < (hs.length : Int)) = false := by simp
        have hi1 : (i : Int) ≤ (hs.length : Int) := by omega
        have hi2 : (i : Int) ≤ (C : Int) := by omega
        have hCi : ¬ C = i := by omega
        have hpos : 0 < hs.length - i := by omega
        have HZO : Hid (∀ v ∈ (Builtin.zeroCells (Value.agg #[.string ByteArray.empty, .slice none 0 0, .int .i64 0, .bool false]).cells (hs.length - i)).toList, v.oneCell' = true) := by show ∀ v ∈ _, _; rw [zero_many]; exact kBl.all_one' _
        have hfz : i * 4 + (Builtin.zeroCells (Value.agg #[.string ByteArray.empty, .slice none 0 0, .int .i64 0, .bool false]).cells (hs.length - i)).toList.length ≤ (kBl.all cur).length := by rw [zero_many, KB.len4, KB.len4, List.length_replicate, hcl, hC]; omega
        have k1 := hk.row (cur.take i ++ (List.replicate (hs.length - i) zb ++ zs)) (fun x hx => by
          rcases List.mem_append.1 hx with q | q
          · exact hk.deep x (List.mem_of_mem_take q)
          · rcases List.mem_append.1 q with q | q
            · rw [(List.mem_replicate.1 q).2]
              exact ⟨zb_deep _, fun k hk => by rw [zb_blocks] at hk; cases hk⟩
            · refine hk.deep x ?_
              have : x ∈ cur.drop hs.length := by rw [hD.rest, List.drop_left' rfl]; exact q
              exact List.mem_of_mem_drop this)
        have hf1 := hf.row (kBl.all (cur.take i ++ (List.replicate (hs.length - i) zb ++ zs))).toArray
        rw [← d5] at k1 hf1
        have HK := Lib.hid k1
        have HFF := Lib.hid hf1
        have hbk := hk.blk
        have HD3 := Lib.hid (And.intro d1 (And.intro d2 (And.intro d3 d4)))
        generalize cur.take i = T at *
        clear k1 hf1 d1 d2 d3 d4 d5 hk hf hD
        go_wp2_with (refine at_clear ?_; refine wpList_clearK rfl (.tmp 38) _ rfl Tryz.underlying22 hj0 hw0 rfl hbk hpos HZO.out hfz ?_; rintro w2 hw2; rw [zero_many] at hw2; subst hw2)
        go_ret
        exact ⟨T, _, i, rfl, HD3.out.1, HD3.out.2.1, by rw [HD3.out.2.2.1]; exact hC, HD3.out.2.2.2, HK.out, HFF.out⟩
  · have hplc : plc (hs.map Prod.fst) p = -1 := by unfold plc; rw [List.length_map, if_neg hit]
    rw [hplc] at HI
    have HFI : Hid (hs.map Prod.fst = (hs.map Prod.fst).filter fun b => !p b) := by
      refine (List.filter_eq_self.2 fun b hb => ?_).symm
      obtain ⟨k, hk, rfl⟩ := List.mem_iff_getElem.1 hb
      have hle : (hs.map Prod.fst).findIdx p ≤ (hs.map Prod.fst).length := List.findIdx_le_length
      rw [List.length_map] at hle hk
      have := List.not_of_lt_findIdx (xs := hs.map Prod.fst) (p := p) (i := k) (by omega)
      simpa using this
    clear hit hplc h
    go_enter Tryz.func93, Tryz.ntmps93
    go_wp2_with fail
    with_reducible refine HI.out.mono ?_
    rintro e w1 ⟨rfl, hb1⟩
    go_wp2
    go_ret
    exact ⟨hs, zs, hs.length, rfl, rfl, HFI.out, hC, fun x hx => .inl hx, HKB.out.below hb1, Far.of hb1 hgl⟩
end Go.Proofs.YtekbgopdeancpaaGreatDoor
/- slices.Delete of one entry in a row that is known whole, whatever lies behind it. -/
namespace Go.Proofs.YtekbgopdeancpaaGreatDoor
open Go.RowKit
theorem delp_lay1 (hs zs : List (En × Hd)) (i : Nat) (hi : i < hs.length) : lay (kEn.all (hs ++ zs)) (i * 4) (kEn.all (hs.drop (i + 1))) = kEn.all ((hs.take i ++ hs.drop (i + 1)) ++ (hs.drop (hs.length - 1) ++ zs)) := by
  unfold lay
  rw [Kin.all_append (l := hs.take i ++ hs.drop (i + 1)), Kin.all_append (l := hs.take i), KE.len4, List.length_drop]
  congr 1
  · congr 1
    have := kEn.all_take (hs ++ zs) i
    rwa [List.take_append_of_le_length (by omega)] at this
  · rw [show i * 4 + (hs.length - (i + 1)) * 4 = (hs.length - 1) * 4 by omega]
    have := kEn.all_drop (hs ++ zs) (hs.length - 1)
    rwa [List.drop_append_of_le_length (by omega)] at this
theorem delp_lay2 (ms rest zs : List (En × Hd)) (M : Nat) (hM : ms.length = M) (hr : rest.length = 1) : lay (kEn.all (ms ++ (rest ++ zs))) (M * 4) (kEn.all [ze]) = kEn.all (ms ++ (ze :: zs)) := by
  subst hM
  have := lay_mid (kEn.all ms) (kEn.all rest) (kEn.all zs) (kEn.all [ze]) (by rw [KE.len4, KE.len4, hr]; rfl)
  rw [KE.len4, List.append_assoc, List.append_assoc] at this
  rw [Kin.all_append, Kin.all_append, Kin.all_append, this]
  rfl
/-- the worlds of a delete -/
theorem delp_kb {w : World} {base g : Nat} {t : TypeId} {hs zs : List (En × Hd)} {L i M : Nat} (h : KE w base g t (hs ++ zs)) (hL : hs.length = L) (hi : i < L) (hM : M = L - 1) :
    Blk (w.setRow g (lay (kEn.all (hs ++ zs)) (i * 4) (kEn.all (hs.drop (i + 1)))).toArray) g t (lay (kEn.all (hs ++ zs)) (i * 4) (kEn.all (hs.drop (i + 1)))) ∧
    KE ((w.setRow g (lay (kEn.all (hs ++ zs)) (i * 4) (kEn.all (hs.drop (i + 1)))).toArray).setRow g (lay (lay (kEn.all (hs ++ zs)) (i * 4) (kEn.all (hs.drop (i + 1)))) (M * 4) (kEn.all [ze])).toArray) base g t ((hs.take i ++ hs.drop (i + 1)) ++ (ze :: zs)) := by
  subst hL
  have hml : (hs.take i ++ hs.drop (i + 1)).length = M := by simp; omega
  have hrl : (hs.drop (hs.length - 1)).length = 1 := by rw [List.length_drop]; omega
  have hin : ∀ x, x ∈ hs → x ∈ hs ++ zs := fun x hx => List.mem_append_left _ hx
  have k1 := h.row ((hs.take i ++ hs.drop (i + 1)) ++ (hs.drop (hs.length - 1) ++ zs)) (fun x hx => by
    rcases List.mem_append.1 hx with q | q
    · rcases List.mem_append.1 q with q | q
      · exact h.deep x (hin _ (List.mem_of_mem_take q))
      · exact h.deep x (hin _ (List.mem_of_mem_drop q))
    · rcases List.mem_append.1 q with q | q
      · exact h.deep x (hin _ (List.mem_of_mem_drop q))
      · exact h.deep x (List.mem_append_right _ q))
  rw [← delp_lay1 hs zs i hi] at k1
  have k2 := k1.row ((hs.take i ++ hs.drop (i + 1)) ++ (ze :: zs)) (fun x hx => by
    rcases List.mem_append.1 hx with q | q
    · exact k1.deep x (List.mem_append_left _ q)
    · rcases List.mem_cons.1 q with q | q
      · subst q
        exact ⟨ze_deep _, fun k hk => by rw [ze_blocks] at hk; cases hk⟩
      · exact k1.deep x (List.mem_append_right _ (List.mem_append_right _ q)))
  refine ⟨setRow_heap w g _ _ t _ h.blk, ?_⟩
  rw [show lay (lay (kEn.all (hs ++ zs)) (i * 4) (kEn.all (hs.drop (i + 1)))) (M * 4) (kEn.all [ze]) = kEn.all ((hs.take i ++ hs.drop (i + 1)) ++ (ze :: zs)) by rw [delp_lay1 hs zs i hi, delp_lay2 _ _ _ M hml hrl]]
  exact k2
set_option maxRecDepth 100000 in
set_option maxHeartbeats 2000000 in
theorem delete_partE (w : World) (base g : Nat) (hs zs : List (En × Hd)) (L C i : Nat) (hL : hs.length = L) (hC : (hs ++ zs).length = C) (hC24 : C ≤ 24) (hi : i < L) (h : KE w base g 54 (hs ++ zs)) :
    Calls Tryz.prog 48 #[.slice (some ⟨g, 0, none⟩) L C, .int .i64 (i : Int), .int .i64 ((i : Int) + 1)] w fun e w' => e = .returned (.slice (some ⟨g, 0, none⟩) (L - 1) C) ∧ KE w' base g 54 ((hs.take i ++ hs.drop (i + 1)) ++ (ze :: zs)) ∧ Far g w w' := by
  obtain ⟨j0, hj0, hw0, hw1, hw2⟩ := info_parts entry_info
  obtain ⟨M, hM⟩ : ∃ M, L - 1 = M := ⟨_, rfl⟩
  have hLC : L ≤ C := by rw [List.length_append] at hC; omega
  rw [hM]
  have hd := h.below (Below.refl w.heap.size w).drew
  obtain ⟨k1, k2⟩ := delp_kb hd hL hi hM.symm
  have hf2 := Lib.hid (((Far.refl g w).drew.row (lay (kEn.all (hs ++ zs)) (i * 4) (kEn.all (hs.drop (i + 1)))).toArray).row (lay (lay (kEn.all (hs ++ zs)) (i * 4) (kEn.all (hs.drop (i + 1)))) (M * 4) (kEn.all [ze])).toArray)
  have HK := Lib.hid k2
  have hbk0 := hd.blk
  have hl1 : (kEn.all (hs.drop (i + 1))).length = (L - (i + 1)) * 4 := by rw [KE.len4, List.length_drop, hL]
  have hl0 : (kEn.all (hs ++ zs)).length = C * 4 := by rw [KE.len4, hC]
  have hf1 : i * 4 + (kEn.all (hs.drop (i + 1))).length ≤ (kEn.all (hs ++ zs)).length := by rw [hl1, hl0]; omega
  have hll : (lay (kEn.all (hs ++ zs)) (i * 4) (kEn.all (hs.drop (i + 1)))).length = C * 4 := by rw [lay_length _ _ _ hf1]; exact hl0
  have hr1 : Rd w.drew 4 (if C = i + 1 then some ⟨g, 0, none⟩ else some ⟨g, (i + 1) * 4, none⟩) (L - (i + 1)) (C - (i + 1)) (kEn.all (hs.drop (i + 1))) := by
    split
    · rename_i q
      have e0 : hs.drop (i + 1) = [] := List.drop_of_length_le (by omega)
      have hz : L - (i + 1) = 0 := by omega
      have hz' : C - (i + 1) = 0 := by omega
      rw [e0, hz, hz']
      exact ⟨by simp [Kin.all], Nat.le_refl _, by unfold maxLen; omega, fun q => absurd q (by simp [Kin.all])⟩
    · refine ⟨hl1, by omega, by unfold maxLen; omega, fun _ => ⟨g, (i + 1) * 4, rfl, fun j v hv => ?_⟩⟩
      rw [hbk0.cell, ← hv, ← kEn.all_drop hs (i + 1)]
      rw [← kEn.all_drop hs (i + 1)] at hv
      have hj : j < ((kEn.all hs).drop ((i + 1) * kEn.size)).length := (List.getElem?_eq_some_iff.1 hv).1
      rw [List.length_drop] at hj
      rw [Kin.all_append, List.getElem?_drop, List.getElem?_append_left (by show (i + 1) * 4 + j < _; have : kEn.size = 4 := rfl; rw [this] at hj; omega)]
      rfl
  have HOB : Hid (∀ v ∈ kEn.all (hs.drop (i + 1)), v.oneCell' = true) := kEn.all_one' _
  have HZO : Hid (∀ v ∈ (Builtin.zeroCells (Value.agg #[.string ByteArray.empty, .slice none 0 0, .int .i64 0, .int .i64 0]).cells 1).toList, v.oneCell' = true) := by show ∀ v ∈ _, _; rw [zero_oneE]; exact kEn.all_one' _
  have hzl : (Builtin.zeroCells (Value.agg #[.string ByteArray.empty, .slice none 0 0, .int .i64 0, .int .i64 0]).cells 1).toList.length = 4 := by rw [zero_oneE, KE.len4]; rfl
  have hf3 : M * 4 + (Builtin.zeroCells (Value.agg #[.string ByteArray.empty, .slice none 0 0, .int .i64 0, .int .i64 0]).cells 1).toList.length ≤ (lay (kEn.all (hs ++ zs)) (i * 4) (kEn.all (hs.drop (i + 1)))).length := by rw [hzl, hll]; omega
  have i1 : (i : Int) ≤ (C : Int) := by omega
  have i2 : (i : Int) + 1 ≤ (L : Int) := by omega
  have i3 : (i : Int) ≤ (i : Int) + 1 := by omega
  have i4 : (0 : Int) ≤ (i : Int) + 1 := by omega
  have i5 : (L : Int) ≤ (C : Int) := by omega
  have i6 : (i : Int) ≤ (L : Int) := by omega
  have i7 : (i : Int) + 1 ≤ (C : Int) := by omega
  have htn : ((i : Int) + 1).toNat = i + 1 := by omega
  have hne : ((i : Int) == (i : Int) + 1) = false := by rw [beq_eq_false_iff_ne]; omega
  have hne1 : ¬ (i : Int) = (i : Int) + 1 := by omega
  have hsum : i + (L - (i + 1)) = M := by omega
  have hLM : L - M = 1 := by omega
  have hML : ¬ C = M := by omega
  have hMi : (M : Int) ≤ (L : Int) := by omega
  have hMc : (M : Int) ≤ (C : Int) := by omega
  generalize ((hs.take i ++ hs.drop (i + 1)) ++ (ze :: zs)) = OL at *
  generalize kEn.all (hs.drop (i + 1)) = xb at *
  generalize kEn.all (hs ++ zs) = xs at *
  have hfI := hf1
  have HAN : Hid ((if C = i + 1 then some (⟨g, 0, none⟩ : Addr) else some ⟨g, (i + 1) * 4, none⟩) = none → C - (i + 1) = 0) := by
    show _ → _
    intro q
    split at q <;> cases q
  clear h hd hl1 hl0 hf1 hll k2 hzl hC
  go_enter Tryz.func48, Tryz.ntmps48
  go_wp2_with fail
  go_region_law (refine step_appendI (g := g) (n := i) (cap := C) (A := if C = i + 1 then some ⟨g, 0, none⟩ else some ⟨g, (i + 1) * 4, none⟩) (m := L - (i + 1)) (c := C - (i + 1)) (by rfl) (.tmp 22) (.tmp 25) _ (by rfl) Tryz.underlying23 hj0 hw1 (by go_simp) (by go_simp) hbk0 hr1 HAN.out HOB.out (by omega) hfI ?_; rw [hsum]; rintro w1 rfl)
  all_goals
    go_wp2_with (refine at_clear ?_; refine wpList_clearK rfl (.tmp 31) _ rfl Tryz.underlying23 hj0 hw0 rfl k1 (by omega) HZO.out hf3 ?_; rintro w2 hw2; rw [zero_oneE] at hw2; subst hw2)
  all_goals
    go_ret
    exact ⟨rfl, HK.out, hf2.out⟩
end Go.Proofs.YtekbgopdeancpaaGreatDoor
/- The landed evict: waste, Waste. -/
namespace Go.Proofs.YtekbgopdeancpaaGreatDoor
open Go.RowKit
theorem any_iff {V : List (List UInt8)} {d : List UInt8} {b : Bool} (h : (V.any fun t => d == t) = b) : b = true ↔ d ∈ V := by rw [← h, any_mem]
set_option maxRecDepth 100000 in
set_option maxHeartbeats 4000000 in
theorem waste_any {A B : Option Addr} {n c m k : Nat} {s : Sto} {w : World} (h : StA w A B n c m k s) (hok : s.ok) :
    Calls Tryz.prog 37 #[.agg #[.slice A n c, .slice B m k, .int .i64 s.rm, .int .i64 s.ck]] w (GivesTx (sWaste s) w) := by
  obtain ⟨l, es, rm, ck⟩ := s
  obtain rfl : n = l.length := h.hr.len
  obtain rfl : m = es.length := h.he.len
  obtain ⟨i0, hi0, hz0, hz1, hz2⟩ := info_parts str_info
  have hcap := h.hr.cap
  unfold maxLen at hcap
  have hal := (Below.refl w.heap.size w).alloc (Nat.le_refl _) (.cells #[.slice A l.length c, .slice B es.length k, .int .i64 rm, .int .i64 ck] 25)
  have hbk := Blk.new w 25 [.slice A l.length c, .slice B es.length k, .int .i64 rm, .int .i64 ck]
  have h0 := h.below hal
  have hg : l.length ≤ 24 := (bsErr_zero.1 hok.be).1
  have hrs : (roots l es).length ≤ 824 := roots_few hok
  obtain ⟨V, hV⟩ : ∃ V, live ⟨l, es, rm, ck⟩ = V := ⟨_, rfl⟩
  have hX : sWaste ⟨l, es, rm, ck⟩ = wFst V l l.length := by
    rw [← hV]
    unfold wFst
    rw [List.take_length]
    rfl
  have HX := Lib.hid hX
  have hR := rall_any A B l.length c es.length k l es rm ck _ h0.hr h0.he (fun b hb => (h0.hgl b hb).1) (fun e he p hp => ((h0.hge e he).2.1 p hp).2.1) h0.hz (by omega)
  rw [show sReach l es = V from hV] at hR
  have HRA := Lib.hid hR
  clear hR
  generalize sWaste ⟨l, es, rm, ck⟩ = X at *
  obtain ⟨a0, a1, a2, a3⟩ := blk4 hbk
  have HR := Lib.hid h0.hr
  clear h h0 hok hrs hV hX
  go_enter Tryz.func37, Tryz.ntmps37
  go_wp2_with fail
  with_reducible refine HRA.out.mono ?_
  rintro e w1 hgv
  obtain ⟨A1, c1, rfl, hV1, -, -, hb1⟩ := hgv.rd
  have hbB := below_step hal hb1
  have k1 := hbk.below hb1 hbk.lt
  have hr1 : KRd kBl w1 A l.length c l := HR.out.below hb1
  clear a0 a1 a2 a3 hbk hal hgv hb1 HR HRA
  obtain ⟨a0, a1, a2, a3⟩ := blk4 k1
  go_wp2
  go_loopw [4, 12] (fun v s wr => ∃ i : Nat, i ≤ l.length ∧ s = .int .i64 i ∧ wr.ownsRow w1.heap.size 9 1 v (wFst V l i).length ((wFst V l i).map sv) ∧ Below w1.heap.size w1 wr) (fun _ s _ => l.length - (intOf s).toNat)
  case atStart => exact ⟨0, Nat.zero_le _, rfl, World.ownsRow_nil _ _ _ _, Below.refl _ _⟩
  case round =>
    obtain ⟨i, hi, rfl, hown, hbel⟩ := hrel
    by_cases hlt : i < l.length
    · obtain ⟨b, off, D, dn, dc, rfl, hc0, hc1, hc2, hc3, -, -⟩ := (hr1.below hbel).blob hlt
      have hii : (i : Int) < (l.length : Int) := by omega
      have HS := Lib.hid (wFst_step (V := V) hlt)
      have hlen := wFst_len V l i
      generalize wFst V l i = out at *
      generalize l[i] = x at *
      have hal2 := (Below.refl wr.heap.size wr).alloc (Nat.le_refl _) (.cells #[.string (str x.dg), .slice D dn dc, .int .i64 x.pn, .bool x.mr] 43)
      have hbk2 := Blk.new wr 43 [.string (str x.dg), .slice D dn dc, .int .i64 x.pn, .bool x.mr]
      have hown2 := own_below hown hal2
      have hbel2 := below_step hbel hal2
      have hV2 := (hV1.below hbel).below hal2
      have hbz := hbel2.size
      obtain ⟨lv, hlv⟩ : ∃ lv, (V.any fun t => x.dg == t) = lv := ⟨_, rfl⟩
      rw [hlv] at HS
      have HLV := Lib.hid hlv
      clear hlv hown hbel hal2
      go_upto_region 6 with fail
      generalize hw3 : wr.alloc (.cells [Value.string (str x.dg), Value.slice D dn dc, Value.int .i64 x.pn, Value.bool x.mr].toArray 43) = w3 at *
      clear hw3 hc0 hc1 hc2 hc3 a0 a1 a2 a3
      have HC := Lib.hid (containsT_any A1 _ c1 V x.dg w3 hV2 lv (any_iff HLV.out))
      obtain ⟨f0, f1, f2, f3⟩ := blk4 hbk2
      go_wp2_with fail
      with_reducible refine HC.out.mono ?_
      rintro e w4 ⟨rfl, rfl⟩
      clear HC HLV hV2
      cases lv with
      | true =>
        have HO : Hid (wFst V l (i + 1) = out) := by show _ = _; rw [HS.out]; simp
        go_wp2
        go_roundw
        case rel => exact ⟨i + 1, by omega, by go_num, by rw [HO.out]; exact hown2, hbel2⟩
        case measure => simp [intOf] <;> omega
      | false =>
        have HO : Hid (wFst V l (i + 1) = out ++ [x.dg]) := by show _ = _; rw [HS.out]; simp
        go_wp2_with (at_builtin; refine wpList_append1' rfl (.tmp 21) (.tmp 24) _ rfl Tryz.underlying26 hi0 hz0 hz1 hz2 rfl (by omega) _ _ _ rfl hown2 [.string (str x.dg)] rfl (by simp [Value.oneCell']) (by first | rfl | simp [Act.eval]) (by omega) (by unfold maxLen; omega) hbz ?_; rintro v3 w6 ⟨hown3, hb3, hs3, -⟩)
        go_roundw
        case rel => exact ⟨i + 1, by omega, by go_num, by rw [HO.out]; exact own_snoc hown3, hbel2.trans hb3⟩
        case measure => simp [intOf] <;> omega
    · have hd2 : decide ((i : Int) < (l.length : Int)) = false := by rw [decide_eq_false_iff_not]; omega
      obtain rfl : i = l.length := by omega
      have hz1 := hbB.size
      go_wp2
      go_ret
      rw [HX.out]
      exact ⟨_, rfl, own_base hown hz1, below_step hbB hbel⟩
set_option maxRecDepth 100000 in
set_option maxHeartbeats 1000000 in
theorem lWaste_any {A B : Option Addr} {n c m k : Nat} {s : Sto} {w : World} (h : StA w A B n c m k s) :
    Calls Tryz.prog 13 #[.agg #[.slice A n c, .slice B m k, .int .i64 s.rm, .int .i64 s.ck]] w (GivesTE (sWasted s) w) := by
  have hal := (Below.refl w.heap.size w).alloc (Nat.le_refl _) (.cells #[.slice A n c, .slice B m k, .int .i64 s.rm, .int .i64 s.ck] 25)
  have hbk := Blk.new w 25 [.slice A n c, .slice B m k, .int .i64 s.rm, .int .i64 s.ck]
  have HC := Lib.hid (lCheck_any (h.below hal))
  by_cases q : sErr s = 0
  · have hok := sErr_zero.1 q
    have HW : Hid (∀ W : World, Below w.heap.size w W → Calls Tryz.prog 37 #[.agg #[.slice A n c, .slice B m k, .int .i64 s.rm, .int .i64 s.ck]] W (GivesTx (sWaste s) W)) := fun W hb => waste_any (h.below hb) hok
    have HX := Lib.hid (wasted_ok hok)
    rw [q] at HC
    generalize sWasted s = X at *
    generalize sWaste s = V at *
    obtain ⟨l, es, rm, ck⟩ := s
    simp only at hal hbk HC HW ⊢
    obtain ⟨a0, a1, a2, a3⟩ := blk4 hbk
    clear h hok q
    go_enter Tryz.func13, Tryz.ntmps13
    go_wp2_with fail
    with_reducible refine HC.out.mono ?_
    rintro e w1 ⟨rfl, hb1⟩
    have hbB := below_step hal hb1
    have k1 := hbk.below hb1 hbk.lt
    clear a0 a1 a2 a3 hbk hal hb1 HC
    obtain ⟨a0, a1, a2, a3⟩ := blk4 k1
    go_wp2_with fail
    with_reducible refine (HW.out _ hbB).mono ?_
    rintro e w2 hgv
    obtain ⟨A2, c2, rfl, hV2, hA2, -, hb2⟩ := hgv.rd
    go_wp2
    go_ret2
    rw [HX.out]
    exact ⟨A2, c2, rfl, hV2, hA2, below_step hbB hb2⟩
  · have HX : Hid (sWasted s = (sErr s, [])) := by show _ = _; unfold sWasted; rw [if_pos q]
    generalize sWasted s = X at *
    generalize sErr s = E at *
    have d1 : (E != 0) = true := by rw [bne_iff_ne]; exact q
    obtain ⟨l, es, rm, ck⟩ := s
    simp only at hal hbk HC ⊢
    obtain ⟨a0, a1, a2, a3⟩ := blk4 hbk
    clear h q
    go_enter Tryz.func13, Tryz.ntmps13
    go_wp2_with fail
    with_reducible refine HC.out.mono ?_
    rintro e w1 ⟨rfl, hb1⟩
    have hbB := below_step hal hb1
    go_wp2
    go_ret2
    rw [HX.out]
    exact givesTE_no rfl hbB
end Go.Proofs.YtekbgopdeancpaaGreatDoor
/- The landed evict: lacks, clean, Clean. -/
namespace Go.Proofs.YtekbgopdeancpaaGreatDoor
open Go.RowKit
set_option maxRecDepth 100000 in
set_option maxHeartbeats 1000000 in
theorem evLacks_any (A B : Option Addr) (n c m k : Nat) (l : List Bl) (rm ck more : Int) (w : World) (hr : KRd kBl w A n c l) :
    Calls Tryz.prog 46 #[.agg #[.slice A n c, .slice B m k, .int .i64 rm, .int .i64 ck], .int .i64 more] w fun e w' => e = .returned (.bool ((rL l rm more).2 == 0 && decide (0 < (rL l rm more).1))) ∧ Below w.heap.size w w' := by
  have hal := (Below.refl w.heap.size w).alloc (Nat.le_refl _) (.cells #[.slice A n c, .slice B m k, .int .i64 rm, .int .i64 ck] 25)
  have hbk := Blk.new w 25 [.slice A n c, .slice B m k, .int .i64 rm, .int .i64 ck]
  have HL := Lib.hid (lacks_any A n c l rm more _ (hr.below hal))
  obtain ⟨⟨x, er⟩, hX⟩ : ∃ x, rL l rm more = x := ⟨_, rfl⟩
  rw [hX] at HL ⊢
  obtain ⟨a0, a1, a2, a3⟩ := blk4 hbk
  clear hr hX
  simp only at HL ⊢
  by_cases q : er = 0
  · subst q
    by_cases p : 0 < x
    · have e1 : decide (0 < x) = true := by simpa using p
      have e2 : ((0 : Int) == 0 && decide (0 < x)) = true := by rw [e1]; rfl
      rw [e2]
      go_enter Tryz.func46, Tryz.ntmps46
      go_wp2_with fail
      with_reducible refine HL.out.mono ?_
      rintro e w1 ⟨rfl, hb1⟩
      go_wp2
      go_ret
      exact ⟨rfl, below_step hal hb1⟩
    · have e1 : decide (0 < x) = false := by simpa using p
      have e2 : ((0 : Int) == 0 && decide (0 < x)) = false := by rw [e1]; rfl
      rw [e2]
      go_enter Tryz.func46, Tryz.ntmps46
      go_wp2_with fail
      with_reducible refine HL.out.mono ?_
      rintro e w1 ⟨rfl, hb1⟩
      go_wp2
      go_ret
      exact ⟨rfl, below_step hal hb1⟩
  · have e1 : (er == 0) = false := by rw [beq_eq_false_iff_ne]; exact q
    have e2 : (er == 0 && decide (0 < x)) = false := by rw [e1]; rfl
    rw [e2]
    clear q
    go_enter Tryz.func46, Tryz.ntmps46
    go_wp2_with fail
    with_reducible refine HL.out.mono ?_
    rintro e w1 ⟨rfl, hb1⟩
    go_wp2
    go_ret
    exact ⟨rfl, below_step hal hb1⟩
set_option maxRecDepth 100000 in
set_option maxHeartbeats 1000000 in
theorem clean1_ok {V : List (List UInt8)} {A1 : Option Addr} {c1 g gb : Nat} {w : World} (hlt : gb < w.heap.size) (hgb : gb ≠ g) (hc : w.cell? ⟨gb, 0, none⟩ = some (.slice A1 V.length c1)) (hr : Rd w 1 A1 V.length c1 (V.map sv)) (hne : ∀ a : Addr, A1 = some a → a.block ≠ g) :
    ∀ (W : World) (x : Bl × Hd), Far g w W → Calls Tryz.prog 94 (#[.agg (kBl.cells x.1 x.2).toArray] ++ #[.pointer (some ⟨gb, 0, none⟩)]) W fun e w' => e = .returned (.bool (V.any fun t => x.1.dg == t)) ∧ Below W.heap.size W w' := fun W x hf => by
  have hcW : W.cell? ⟨gb, 0, none⟩ = some (.slice A1 V.length c1) := (cell_heap (hf.block gb hlt hgb) 0).trans hc
  have hrW := hf.rd hr hne
  have hgW : gb < W.heap.size := Nat.lt_of_lt_of_le hlt hf.b.size
  have hne2 : gb ≠ W.heap.size := by omega
  obtain ⟨⟨d1, t1, p1, m1⟩, ⟨D1, n1, e1⟩⟩ := x
  show Calls Tryz.prog 94 #[.agg #[.string (str d1), .slice D1 n1 e1, .int .i64 p1, .bool m1], .pointer (some ⟨gb, 0, none⟩)] W fun e w' => e = .returned (.bool (V.any fun t => d1 == t)) ∧ _
  obtain ⟨lv, hlv⟩ : ∃ lv, (V.any fun t => d1 == t) = lv := ⟨_, rfl⟩
  rw [hlv]
  have hal := (Below.refl W.heap.size W).alloc (Nat.le_refl _) (.cells #[.string (str d1), .slice D1 n1 e1, .int .i64 p1, .bool m1] 43)
  have HC := Lib.hid (containsT_any A1 _ c1 V d1 _ (hrW.below hal) lv (any_iff hlv))
  clear hr hrW hc hf hlv hne
  go_enter Tryz.func94, Tryz.ntmps94
  go_wp2_with fail
  with_reducible refine HC.out.mono ?_
  rintro e w1 ⟨rfl, rfl⟩
  go_wp2
  go_ret
  exact ⟨rfl, hal⟩
/-- what cleaning leaves in place -/
def Cleaned (base g C : Nat) (B : Option Addr) (m k : Nat) (hs zs : List (Bl × Hd)) (L : List Bl) (rm ck : Int) (w : World) (e : Ending) (w' : World) : Prop :=
  ∃ hs' zs' : List (Bl × Hd), e = .returned (.agg #[.slice (some ⟨g, 0, none⟩) hs'.length C, .slice B m k, .int .i64 rm, .int .i64 ck]) ∧ hs'.map Prod.fst = L ∧ (hs' ++ zs').length = C ∧ (∀ x ∈ hs' ++ zs', x ∈ hs ++ zs ∨ x = zb) ∧ KB w' base g 43 (hs' ++ zs') ∧ Far g w w'
theorem waste_filter {s : Sto} : s.bs.filter (fun b => !((sWaste s).any fun t => b.dg == t)) = (sClean s).bs := by
  show _ = s.bs.filter (isLive s)
  refine List.filter_congr fun b hb => ?_
  have h1 := waste_mem hb
  have h2 := isLive_iff (s := s) (b := b)
  cases hq : ((sWaste s).any fun t => b.dg == t)
  · have : ¬ b.dg ∈ sWaste s := fun q => by rw [← any_mem, hq] at q; cases q
    have : b.dg ∈ live s := Classical.byContradiction fun q => this (h1.2 q)
    rw [h2.2 this]; rfl
  · have : b.dg ∈ sWaste s := any_mem.1 hq
    have h3 := h1.1 this
    cases hl : isLive s b
    · rfl
    · exact absurd (h2.1 hl) h3
set_option maxRecDepth 100000 in
set_option maxHeartbeats 2000000 in
theorem clean_any {B : Option Addr} {base g C m k : Nat} {hs zs : List (Bl × Hd)} {es : List En} {rm ck : Int} {w : World} (h : StA w (some ⟨g, 0, none⟩) B hs.length C m k ⟨hs.map Prod.fst, es, rm, ck⟩) (hok : (⟨hs.map Prod.fst, es, rm, ck⟩ : Sto).ok)
    (hC : (hs ++ zs).length = C) (hC24 : C ≤ 24) (hk : KB w base g 43 (hs ++ zs)) :
    Calls Tryz.prog 41 #[.agg #[.slice (some ⟨g, 0, none⟩) hs.length C, .slice B m k, .int .i64 rm, .int .i64 ck]] w (Cleaned base g C B m k hs zs (sClean ⟨hs.map Prod.fst, es, rm, ck⟩).bs rm ck w) := by
  have hgl := hk.blk.lt
  have hal := ((Below.refl w.heap.size w).alloc (Nat.le_refl _) (.cells #[.slice (some ⟨g, 0, none⟩) hs.length C, .slice B m k, .int .i64 rm, .int .i64 ck] 25)).alloc (by simp) (.cells #[.slice none 0 0, .slice none 0 0, .int .i64 0, .int .i64 0] 25)
  have hb1 := (Blk.new w 25 [.slice (some ⟨g, 0, none⟩) hs.length C, .slice B m k, .int .i64 rm, .int .i64 ck]).alloc (.cells #[.slice none 0 0, .slice none 0 0, .int .i64 0, .int .i64 0] 25)
  have hb2 := Blk.new (w.alloc (.cells #[.slice (some ⟨g, 0, none⟩) hs.length C, .slice B m k, .int .i64 rm, .int .i64 ck] 25)) 25 [.slice none 0 0, .slice none 0 0, .int .i64 0, .int .i64 0]
  have hsz : (w.alloc (.cells #[.slice (some ⟨g, 0, none⟩) hs.length C, .slice B m k, .int .i64 rm, .int .i64 ck] 25)).heap.size = w.heap.size + 1 := by simp
  rw [hsz] at hb2
  have HW := Lib.hid (waste_any (h.below hal) hok)
  have HF := Lib.hid (waste_filter (s := ⟨hs.map Prod.fst, es, rm, ck⟩))
  have hin : ∀ x ∈ hs ++ zs, ∀ j ∈ kBl.blocks x.2, j < w.heap.size := fun x hx j hj => ((hk.deep x hx).2 j hj).2.1
  generalize (sClean ⟨hs.map Prod.fst, es, rm, ck⟩).bs = L at *
  generalize sWaste ⟨hs.map Prod.fst, es, rm, ck⟩ = V at *
  obtain ⟨a0, a1, a2, a3⟩ := blk4 hb1
  clear h hok hsz
  go_enter Tryz.func41, Tryz.ntmps41
  go_wp2_with fail
  with_reducible refine HW.out.mono ?_
  rintro e w2 hgv
  obtain ⟨A2, c2, rfl, hV2, -, hA2, hc2⟩ := hgv.rd
  have k1 := hb1.below hc2 hb1.lt
  have k2 := hb2.below hc2 hb2.lt
  have hbB := below_step hal hc2
  have hz2 : w.heap.size + 2 ≤ w2.heap.size := by have := k2.lt; omega
  have hal3 := (Below.refl w2.heap.size w2).alloc (Nat.le_refl _) (.cells #[.slice A2 V.length c2] 26)
  have x3 := Blk.new w2 26 [.slice A2 V.length c2]
  have k1' := k1.below hal3 k1.lt
  have k2' := k2.below hal3 k2.lt
  have hbC := below_step hbB hal3
  have hV3 := hV2.below hal3
  have hsw : (w.alloc (.cells #[.slice (some ⟨g, 0, none⟩) hs.length C, .slice B m k, .int .i64 rm, .int .i64 ck] 25)).heap.size = w.heap.size + 1 := by simp
  clear HW hgv hb1 hb2 hal hc2 k1 k2 hbB hal3 hV2 a0 a1 a2 a3
  go_upto_region 2 with fail
  generalize hw3 : w2.alloc (.cells [Value.slice A2 V.length c2].toArray 26) = w3 at *
  clear hw3
  have k3 := hk.below hbC
  have hxl := x3.lt
  have HD := Lib.hid (deleteB_any w3 base g hs zs hs.length C rfl hC hC24 k3 (fun b => V.any fun t => b.dg == t) 94 #[.pointer (some ⟨w2.heap.size, 0, none⟩)] (enters_of Tryz.func94 (by kernel_rfl) rfl)
    (clean1_ok hxl (by omega) (x3.cell 0) hV3 (fun a ha => by have h1 := hA2 a ha; have h2 := hz2; simp at h1; omega)))
  obtain ⟨a0, a1, a2, a3⟩ := blk4 k1'
  clear hk k3 hV3 x3 hA2
  go_wp2_with fail
  with_reducible refine HD.out.mono ?_
  rintro e w4 ⟨hs', zs', q, rfl, hq, hm, hc', hx', hk4, hf4⟩
  subst hq
  have f4 : Far g w w4 := (Far.of hbC hgl).trans hf4
  have p1 := hf4.blk k1' (by omega)
  have p2 := hf4.blk k2' (by omega)
  have hin' : ∀ x ∈ hs' ++ zs', ∀ j ∈ kBl.blocks x.2, j < w.heap.size := fun x hx j hj => by
    rcases hx' x hx with q | q
    · exact hin x q j hj
    · subst q; rw [zb_blocks] at hj; cases hj
  have p1' := p1.put 0 (.slice (some ⟨g, 0, none⟩) hs'.length C)
  have p2' := p2.far (p := ⟨w.heap.size, 0, none⟩) (show w.heap.size + 1 ≠ w.heap.size by omega) (.slice (some ⟨g, 0, none⟩) hs'.length C)
  simp only [List.set_cons_zero] at p1'
  obtain ⟨y0, -, -, -⟩ := blk4z p1
  obtain ⟨x0, -, -, -⟩ := blk4 p1
  obtain ⟨e0, e1, e2, e3⟩ := blk4 p1'
  obtain ⟨b0, b1, b2, b3⟩ := blk4 p2'
  obtain ⟨d0, d1, d2, d3⟩ := blk4z p2'
  have HJ := Lib.hid (p2'.put4s (.slice (some ⟨g, 0, none⟩) hs'.length C) (.slice B m k) (.int .i64 rm) (.int .i64 ck))
  have f5 := (((((f4.new hgl (Nat.le_refl _) 0 (.slice (some ⟨g, 0, none⟩) hs'.length C)).new hgl (Nat.le_succ w.heap.size) 0 (.slice (some ⟨g, 0, none⟩) hs'.length C)).new hgl (Nat.le_succ w.heap.size) 1 (.slice B m k)).new hgl (Nat.le_succ w.heap.size) 2 (.int .i64 rm)).new hgl (Nat.le_succ w.heap.size) 3 (.int .i64 ck))
  have n1 := hk4.far ((Far.refl w.heap.size w4).cell 0 (.slice (some ⟨g, 0, none⟩) hs'.length C)) (by omega) (fun x hx j hj => by have := hin' x hx j hj; omega)
  have n2 := n1.far (((((Far.refl (w.heap.size + 1) (w4.setCell ⟨w.heap.size, 0, none⟩ (.slice (some ⟨g, 0, none⟩) hs'.length C))).cell 0 (.slice (some ⟨g, 0, none⟩) hs'.length C)).cell 1 (.slice B m k)).cell 2 (.int .i64 rm)).cell 3 (.int .i64 ck)) (by omega) (fun x hx j hj => by have := hin' x hx j hj; omega)
  clear k1' k2' p1 p2 p1' p2' hk4 hf4 f4 n1 HD
  go_wp2
  refine bodyPost_ret (results_cell_row rfl _ _ (w.heap.size + 1) 25 _ (0, 0) _ rfl HJ.out Tryz.underlying25 rfl store_size) rfl ?_
  exact ⟨hs', zs', rfl, by rw [hm]; exact HF.out, hc', hx', n2, f5⟩
end Go.Proofs.YtekbgopdeancpaaGreatDoor
/- The landed evict: Clean. -/
namespace Go.Proofs.YtekbgopdeancpaaGreatDoor
open Go.RowKit
/-- what the last statement reads -/
theorem sc6 {W : World} {g q : Nat} {t t' : TypeId} {a b c d a' b' c' d' : Value} (h : Blk W g t [a, b, c, d]) (k : Blk W q t' [a', b', c', d']) :
    W.cell? ⟨g, 0, none⟩ = some a ∧ W.cell? ⟨g, 1, none⟩ = some b ∧ W.cell? ⟨g, 2, none⟩ = some c ∧ W.cell? ⟨g, 3, none⟩ = some d ∧ W.cell? ⟨q, 0, none⟩ = some a' :=
  ⟨h.cell 0, h.cell 1, h.cell 2, h.cell 3, k.cell 0⟩
theorem map_len' {α β : Type} {f : α → β} {l : List α} {m : List β} (h : l.map f = m) : m.length = l.length := by rw [← h, List.length_map]
/-- cleaning what Copy handed back -/
theorem clean_os {W : World} {Bs M N g1 g2 C1 C2 : Nat} {hs1 zs1 : List (Bl × Hd)} {hs2 zs2 : List (En × Hd)} {L : List Bl} {E : List En} {rm ck : Int} (hK : Kon W) (h : OSt W Bs M N g1 g2 C1 C2 43 54 hs1 zs1 hs2 zs2) (h1 : hs1.map Prod.fst = L) (h2 : hs2.map Prod.fst = E) (hok : (⟨L, E, rm, ck⟩ : Sto).ok) :
    Calls Tryz.prog 41 #[.agg #[.slice (some ⟨g1, 0, none⟩) L.length C1, .slice (some ⟨g2, 0, none⟩) E.length C2, .int .i64 rm, .int .i64 ck]] W fun e w' => ∃ hs' zs' : List (Bl × Hd), e = .returned (.agg #[.slice (some ⟨g1, 0, none⟩) (sClean ⟨L, E, rm, ck⟩).bs.length C1, .slice (some ⟨g2, 0, none⟩) E.length C2, .int .i64 rm, .int .i64 ck]) ∧
      hs'.map Prod.fst = (sClean ⟨L, E, rm, ck⟩).bs ∧ OSt w' Bs M N g1 g2 C1 C2 43 54 hs' zs' hs2 zs2 ∧ Far g1 W w' := by
  subst h1; subst h2
  have hs := sta_of hK h.rd1 h.rd2 (fun q => by cases q) (fun q => by cases q) hok
  have hc := clean_any hs hok h.c1 h.l1 h.k1
  rw [List.length_map, List.length_map]
  refine hc.mono ?_
  rintro e w' ⟨hs', zs', rfl, hm, hc', hx', hk', hf'⟩
  refine ⟨hs', zs', ?_, hm, h.blobs hf' hk' hc' hx', hf'⟩
  rw [map_len' hm]
set_option maxRecDepth 100000 in
set_option maxHeartbeats 4000000 in
theorem lClean_any {A B : Option Addr} {n c m k : Nat} {s : Sto} {w : World} (h : StA w A B n c m k s) :
    Calls Tryz.prog 16 #[.agg #[.slice A n c, .slice B m k, .int .i64 s.rm, .int .i64 s.ck]] w (GivesSN (sCleaned s) w) := by
  obtain ⟨l, es, rm, ck⟩ := s
  obtain rfl : n = l.length := h.hr.len
  obtain rfl : m = es.length := h.he.len
  have hal := ((Below.refl w.heap.size w).alloc (Nat.le_refl _) (.cells #[.slice A l.length c, .slice B es.length k, .int .i64 rm, .int .i64 ck] 25)).alloc (by simp) (.cells #[.slice none 0 0, .slice none 0 0, .int .i64 0, .int .i64 0] 25)
  have hb1 := (Blk.new w 25 [.slice A l.length c, .slice B es.length k, .int .i64 rm, .int .i64 ck]).alloc (.cells #[.slice none 0 0, .slice none 0 0, .int .i64 0, .int .i64 0] 25)
  have hb2 := Blk.new (w.alloc (.cells #[.slice A l.length c, .slice B es.length k, .int .i64 rm, .int .i64 ck] 25)) 25 [.slice none 0 0, .slice none 0 0, .int .i64 0, .int .i64 0]
  have hsz : (w.alloc (.cells #[.slice A l.length c, .slice B es.length k, .int .i64 rm, .int .i64 ck] 25)).heap.size = w.heap.size + 1 := by simp
  rw [hsz] at hb2
  clear hsz
  have HC := Lib.hid (lCheck_any (h.below hal))
  obtain ⟨a0, a1, a2, a3⟩ := blk4 hb1
  by_cases q : sErr ⟨l, es, rm, ck⟩ = 0
  · have hok := sErr_zero.1 q
    rw [q] at HC
    have HCP := Lib.hid (fun (W : World) (hb : Below w.heap.size w W) => lCopyK (h.below hb) (bsErr_zero.1 hok.be).1 (xsErr_zero.1 hok.xe).1)
    have HCL := Lib.hid (fun (W : World) (Bs M N g1 g2 : Nat) (hs1 : List (Bl × Hd)) (hs2 : List (En × Hd)) (hb : Below w.heap.size w W) (ho : OSt W Bs M N g1 g2 l.length es.length 43 54 hs1 [] hs2 []) (h1 : hs1.map Prod.fst = l) (h2 : hs2.map Prod.fst = es) => clean_os (h.hK.below hb) ho h1 h2 hok)
    have hlen := waste_len ⟨l, es, rm, ck⟩
    obtain ⟨L, hL⟩ : ∃ L, (sClean ⟨l, es, rm, ck⟩).bs = L := ⟨_, rfl⟩
    have hY : sClean ⟨l, es, rm, ck⟩ = ⟨L, es, rm, ck⟩ := by rw [← hL]; rfl
    have hX := cleaned_ok hok
    rw [hL] at HCL hlen
    rw [hY] at hX
    have hl24 : l.length ≤ 24 := (bsErr_zero.1 hok.be).1
    obtain ⟨K, hK⟩ : ∃ K, (sWaste ⟨l, es, rm, ck⟩).length = K := ⟨_, rfl⟩
    rw [hK] at hX hlen
    simp only at hlen
    have hwr : IntKind.i64.wrap ((l.length : Int) - (L.length : Int)) = (K : Int) := by rw [IntWalk.i64_in _ (by omega)]; omega
    have HX := Lib.hid hX
    generalize sCleaned ⟨l, es, rm, ck⟩ = X at *
    clear h hok q hL hY hX hK
    go_enter Tryz.func16, Tryz.ntmps16
    go_wp2_with fail
    with_reducible refine HC.out.mono ?_
    rintro e w2 ⟨rfl, hc2⟩
    have k1 := hb1.below hc2 hb1.lt
    have k2 := hb2.below hc2 hb2.lt
    have hbB := below_step hal hc2
    clear HC hb1 hb2 hal hc2 a0 a1 a2 a3
    obtain ⟨a0, a1, a2, a3⟩ := blk4 k1
    go_wp2_with fail
    with_reducible refine (HCP.out _ hbB).mono ?_
    rintro e w3 ⟨M, g1, g2, hs1, hs2, rfl, hm1, hm2, hMz, hO, hc3⟩
    have p1 := k1.below hc3 k1.lt
    have p2 := k2.below hc3 k2.lt
    have hbC := below_step hbB hc3
    have hkl := k2.lt
    clear HCP k1 k2 hbB a0 a1 a2 a3
    simp only
    simp only at hO hm1 hm2
    go_wp2_with fail
    with_reducible refine (HCL.out _ _ _ _ _ _ _ _ hbC hO hm1 hm2).mono ?_
    rintro e w4 ⟨hs', zs', rfl, hm', hO4, hf4⟩
    have hg1 := hO.k1.ge
    have r1 := hf4.blk p1 (by omega)
    have r2 := hf4.blk p2 (by omega)
    have hbD : Below w.heap.size w w4 := hbC.trans (hf4.below (by omega))
    have hz4 : w2.heap.size ≤ w4.heap.size := Nat.le_trans hc3.size hf4.b.size
    have hal5 := (Below.refl w4.heap.size w4).alloc (Nat.le_refl _) (.cells #[.slice (some ⟨g1, 0, none⟩) L.length l.length, .slice (some ⟨g2, 0, none⟩) es.length es.length, .int .i64 rm, .int .i64 ck] 25)
    have v5 := (Blk.new w4 25 [.slice (some ⟨g1, 0, none⟩) L.length l.length, .slice (some ⟨g2, 0, none⟩) es.length es.length, .int .i64 rm, .int .i64 ck])
    have r1' := (r1.below hal5 r1.lt)
    have r2' := (r2.below hal5 r2.lt)
    have hO5 := hO4.below hal5
    have hbE := below_step hbD hal5
    clear HCL p1 p2 hbC hO hf4 r1 r2 hO4 hbD hal5
    go_upto_region 5 with fail
    generalize hw5 : w4.alloc (.cells [Value.slice (some ⟨g1, 0, none⟩) L.length l.length, .slice (some ⟨g2, 0, none⟩) es.length es.length, .int .i64 rm, .int .i64 ck].toArray 25) = w5 at *
    clear hw5
    have kd := v5.drew
    have id := r1'.drew
    obtain ⟨z0, z1, z2, z3⟩ := blk4 r2'
    obtain ⟨y0, y1, y2, y3⟩ := blk4z r2'
    have hne4 : w4.heap.size ≠ w.heap.size + 1 := by omega
    have hne5 : w.heap.size ≠ w.heap.size + 1 := by omega
    have hsM : M ≤ w5.heap.size := Nat.le_of_lt (Nat.lt_of_le_of_lt hO5.k2.ge hO5.k2.blk.lt)
    have HN1 := Lib.hid (((hO5.new1.set4s (q := w.heap.size + 1) (by omega) (.slice (some ⟨g1, 0, none⟩) L.length l.length) (.slice (some ⟨g2, 0, none⟩) es.length es.length) (.int .i64 rm) (.int .i64 ck)).below (Below.refl _ _).drew).rebase (base' := w.heap.size) (by omega))
    have hgM := hO5.m1.1
    have HN2 := Lib.hid (((hO5.new2.set4s (q := w.heap.size + 1) (by omega) (.slice (some ⟨g1, 0, none⟩) L.length l.length) (.slice (some ⟨g2, 0, none⟩) es.length es.length) (.int .i64 rm) (.int .i64 ck)).below (Below.refl _ _).drew).rebase (base' := w.heap.size) (by omega))
    have HBL := Lib.hid (below4s hbE (q := w.heap.size + 1) (by omega) (.slice (some ⟨g1, 0, none⟩) L.length l.length) (.slice (some ⟨g2, 0, none⟩) es.length es.length) (.int .i64 rm) (.int .i64 ck)).drew
    have HJ := Lib.hid (r2'.put4s (.slice (some ⟨g1, 0, none⟩) L.length l.length) (.slice (some ⟨g2, 0, none⟩) es.length es.length) (.int .i64 rm) (.int .i64 ck)).drew
    have HML := Lib.hid (And.intro (map_len' hm') (And.intro (map_len' hm2) (And.intro hm' hm2)))
    clear hm' hm1 hm2
    go_region_held_law (fun W => W.cell? ⟨w4.heap.size, 0, none⟩ = some (.slice (some ⟨g1, 0, none⟩) L.length l.length) ∧ W.cell? ⟨w4.heap.size, 1, none⟩ = some (.slice (some ⟨g2, 0, none⟩) es.length es.length) ∧ W.cell? ⟨w4.heap.size, 2, none⟩ = some (.int .i64 rm) ∧ W.cell? ⟨w4.heap.size, 3, none⟩ = some (.int .i64 ck) ∧ W.cell? ⟨w.heap.size, 0, none⟩ = some (.slice A l.length c))
      (first | with_reducible exact sc6 kd id | with_reducible exact sc6 (v5.far4s hne4 _ _ _ _).drew (r1'.far4s hne5 _ _ _ _).drew | go_keep) (fail)
    all_goals
      go_wp2
      refine bodyPost_ret (results_cell_row3 rfl _ _ (w.heap.size + 1) 25 _ (0, 0) _ rfl HJ.out Tryz.underlying25 rfl store_size) rfl ?_
      rw [HX.out]
      have e1 := HN1.out
      have e2 := HN2.out
      rw [← HML.out.1, HML.out.2.2.1] at e1
      rw [← HML.out.2.1, HML.out.2.2.2] at e2
      exact ⟨_, _, _, _, rfl, e1, e2, HBL.out⟩
  · have HX : Hid (sCleaned ⟨l, es, rm, ck⟩ = (sErr ⟨l, es, rm, ck⟩, sNil, 0)) := by show _ = _; unfold sCleaned; rw [if_pos q]
    generalize sCleaned ⟨l, es, rm, ck⟩ = X at *
    generalize sErr ⟨l, es, rm, ck⟩ = E at *
    have d1 : (E != 0) = true := by rw [bne_iff_ne]; exact q
    clear h q
    go_enter Tryz.func16, Tryz.ntmps16
    go_wp2_with fail
    with_reducible refine HC.out.mono ?_
    rintro e w2 ⟨rfl, hc2⟩
    have hk2 := hb2.lt
    have k2 := hb2.below hc2 hb2.lt
    have hbB := below_step hal hc2
    clear HC hb1 hb2 hal hc2 a0 a1 a2 a3
    obtain ⟨z0, z1, z2, z3⟩ := blk4 k2
    obtain ⟨y0, y1, y2, y3⟩ := blk4z k2
    go_wp2
    refine bodyPost_ret (results_cell_row3 rfl _ _ (w.heap.size + 1) 25 _ (0, 0) _ rfl (k2.put4s _ _ _ _) Tryz.underlying25 rfl store_size) rfl ?_
    rw [HX.out]
    exact givesSN_no rfl (below4s hbB (by omega) _ _ _ _)
end Go.Proofs.YtekbgopdeancpaaGreatDoor
/- The landed evict: Run. -/
namespace Go.Proofs.YtekbgopdeancpaaGreatDoor
open Go.RowKit
/-- is there too little room? -/
def lkB (l : List Bl) (rm more : Int) : Bool := (rL l rm more).2 == 0 && decide (0 < (rL l rm more).1)
theorem lkB_ok {y : Sto} (h : y.ok) {more : Int} (h0 : 0 ≤ more) (h4 : more ≤ 4000) : lkB y.bs y.rm more = decide (y.rm < wrap64 (uS y.bs + more)) := by
  unfold lkB
  rw [lacks_ok h h0 h4, more_small h h0 h4]
  have e : ((0 : Int) == 0) = true := rfl
  simp only [e, Bool.true_and]
  split
  · rename_i q
    rw [decide_eq_true q, decide_eq_true (by omega)]
  · rename_i q
    rw [decide_eq_false (by omega), decide_eq_false (by omega)]
/-- deleting entry i of a store in memory of the call's own -/
theorem delete_os {W : World} {Bs M N g1 g2 C1 C2 : Nat} {hs1 zs1 : List (Bl × Hd)} {hs2 zs2 : List (En × Hd)} {E : List En} {i : Nat} (h : OSt W Bs M N g1 g2 C1 C2 43 54 hs1 zs1 hs2 zs2) (h2 : hs2.map Prod.fst = E) (hi : i < E.length) :
    Calls Tryz.prog 48 #[.slice (some ⟨g2, 0, none⟩) E.length C2, .int .i64 (i : Int), .int .i64 ((i : Int) + 1)] W fun e w' => ∃ hs' zs' : List (En × Hd), e = .returned (.slice (some ⟨g2, 0, none⟩) (E.eraseIdx i).length C2) ∧
      hs'.map Prod.fst = E.eraseIdx i ∧ OSt w' Bs M N g1 g2 C1 C2 43 54 hs1 zs1 hs' zs' ∧ Far g2 W w' := by
  subst h2
  rw [List.length_map] at hi ⊢
  have hl2 := h.l2
  refine (delete_partE W M g2 hs2 zs2 hs2.length C2 i rfl h.c2 (by omega) hi h.k2).mono ?_
  rintro e w' ⟨rfl, hk, hf⟩
  have hl : (hs2.take i ++ hs2.drop (i + 1)).length = hs2.length - 1 := by simp; omega
  have hm : (hs2.take i ++ hs2.drop (i + 1)).map Prod.fst = (hs2.map Prod.fst).eraseIdx i := by
    rw [List.eraseIdx_eq_take_drop_succ, List.map_append, List.map_take, List.map_drop]
  refine ⟨_, ze :: zs2, ?_, hm, h.entries hf hk ?_ (fun x hx => ?_), hf⟩
  · rw [← hm, List.length_map, hl]
  · have := h.c2
    rw [List.length_append] at this ⊢
    rw [hl, List.length_cons]; omega
  · rcases List.mem_append.1 hx with q | q
    · rcases List.mem_append.1 q with q | q
      · exact .inl (List.mem_append_left _ (List.mem_of_mem_take q))
      · exact .inl (List.mem_append_left _ (List.mem_of_mem_drop q))
    · rcases List.mem_cons.1 q with q | q
      · exact .inr q
      · exact .inl (List.mem_append_right _ q)
/-- what the loop's variables hold: a store in memory of the call's own, and texts -/
structure RuI (w : World) (Bs M N g1 g2 C1 C2 G : Nat) (hs1 zs1 : List (Bl × Hd)) (hs2 zs2 : List (En × Hd)) (y : Sto) (gone : List (List UInt8)) (v : Value) (wr : World) : Prop where
  var : Blk wr w.heap.size 25 [.slice (some ⟨g1, 0, none⟩) y.bs.length C1, .slice (some ⟨g2, 0, none⟩) y.es.length C2, .int .i64 y.rm, .int .i64 y.ck]
  res : Blk wr (w.heap.size + 1) 25 [.slice none 0 0, .slice none 0 0, .int .i64 0, .int .i64 0]
  os : OSt wr Bs M N g1 g2 C1 C2 43 54 hs1 zs1 hs2 zs2
  m1 : hs1.map Prod.fst = y.bs
  m2 : hs2.map Prod.fst = y.es
  own : wr.ownsRow G 9 1 v gone.length (gone.map sv)
  bs : w.heap.size + 2 ≤ Bs
  mn : M ≤ N
  ng : N ≤ G
  gz : G ≤ wr.heap.size
  bel : Below w.heap.size w wr
section
variable {w w6 w7 w8 w9 : World} {Bs M N g1 g2 C1 C2 G : Nat} {hs1 zs1 : List (Bl × Hd)} {hs2 zs2 : List (En × Hd)} {y : Sto} {gone : List (List UInt8)} {v v7 : Value}
theorem RuI.lts (h : RuI w Bs M N g1 g2 C1 C2 G hs1 zs1 hs2 zs2 y gone v w6) : w.heap.size + 2 ≤ g1 ∧ g1 < g2 ∧ g2 < G ∧ G ≤ w6.heap.size := by
  have h1 := h.bs; have h2 := h.os.k1.ge; have h3 := h.os.m1.1; have h4 := h.os.k2.ge; have h5 := h.os.m2.1; have h6 := h.ng; have h7 := h.gz
  omega
theorem RuI.below (h : RuI w Bs M N g1 g2 C1 C2 G hs1 zs1 hs2 zs2 y gone v w6) (hb : Below w6.heap.size w6 w7) : RuI w Bs M N g1 g2 C1 C2 G hs1 zs1 hs2 zs2 y gone v w7 :=
  ⟨h.var.below hb h.var.lt, h.res.below hb h.res.lt, h.os.below hb, h.m1, h.m2, own_below h.own hb, h.bs, h.mn, h.ng, Nat.le_trans h.gz hb.size, below_step h.bel hb⟩
theorem RuI.snoc {K : List UInt8} (h : RuI w Bs M N g1 g2 C1 C2 G hs1 zs1 hs2 zs2 y gone v w6) (ha : App1 G 9 1 gone.length (gone.map sv) [.string (str K)] v w6 v7 w7) : RuI w Bs M N g1 g2 C1 C2 G hs1 zs1 hs2 zs2 y (gone ++ [K]) v7 w7 := by
  obtain ⟨h1, h2, h3, -⟩ := ha
  obtain ⟨q1, q2, q3, q4⟩ := h.lts
  exact ⟨(h2.block _ (by omega)).trans h.var, (h2.block _ (by omega)).trans h.res, h.os.keep h3 h.mn (fun k _ k2 => h2.block k (by have := h.ng; omega)), h.m1, h.m2, own_snoc h1, h.bs, h.mn, h.ng, Nat.le_trans h.gz h3, h.bel.trans (h2.mono (by omega))⟩
theorem RuI.del {hs2' zs2' : List (En × Hd)} {E : List En} (h : RuI w Bs M N g1 g2 C1 C2 G hs1 zs1 hs2 zs2 y gone v w7) (hos : OSt w8 Bs M N g1 g2 C1 C2 43 54 hs1 zs1 hs2' zs2') (hm : hs2'.map Prod.fst = E) (hf : Far g2 w7 w8) :
    RuI w Bs M N g1 g2 C1 C2 G hs1 zs1 hs2' zs2' ⟨y.bs, E, y.rm, y.ck⟩ gone v (w8.setCell ⟨w.heap.size, 1, none⟩ (.slice (some ⟨g2, 0, none⟩) E.length C2)) := by
  obtain ⟨q1, q2, q3, q4⟩ := h.lts
  refine ⟨by simpa using (hf.blk h.var (by omega)).put 1 (.slice (some ⟨g2, 0, none⟩) E.length C2), (hf.blk h.res (by omega)).far (p := ⟨w.heap.size, 1, none⟩) (show w.heap.size + 1 ≠ w.heap.size by omega) _, hos.keep (by simp) h.mn (fun k k1 _ => Below.heap_setCell _ ⟨w.heap.size, 1, none⟩ _ k (by show k ≠ w.heap.size; have := h.bs; omega)), h.m1, hm,
    own_setC (own_farV h.own hf (fun q => by have := (h.own.lt _ q).1; omega)) (by omega) _, h.bs, h.mn, h.ng, by have := hf.b.size; simp; omega, (h.bel.trans (hf.below (by omega))).setCell (p := ⟨w.heap.size, 1, none⟩) (Nat.le_refl _) _⟩
theorem RuI.cln {hs1' zs1' : List (Bl × Hd)} {L : List Bl} (h : RuI w Bs M N g1 g2 C1 C2 G hs1 zs1 hs2 zs2 y gone v w8) (hos : OSt w9 Bs M N g1 g2 C1 C2 43 54 hs1' zs1' hs2 zs2) (hm : hs1'.map Prod.fst = L) (hf : Far g1 w8 w9) :
    RuI w Bs M N g1 g2 C1 C2 G hs1' zs1' hs2 zs2 ⟨L, y.es, y.rm, y.ck⟩ gone v ((((w9.setCell ⟨w.heap.size, 0, none⟩ (.slice (some ⟨g1, 0, none⟩) L.length C1)).setCell ⟨w.heap.size, 1, none⟩ (.slice (some ⟨g2, 0, none⟩) y.es.length C2)).setCell ⟨w.heap.size, 2, none⟩ (.int .i64 y.rm)).setCell ⟨w.heap.size, 3, none⟩ (.int .i64 y.ck)) := by
  obtain ⟨q1, q2, q3, q4⟩ := h.lts
  refine ⟨(hf.blk h.var (by omega)).put4s _ _ _ _, (hf.blk h.res (by omega)).far4s (show w.heap.size + 1 ≠ w.heap.size by omega) _ _ _ _, hos.keep (by simp) h.mn (fun k k1 _ => ?_), hm, h.m2,
    own_set4 (own_farV h.own hf (fun q => by have := (h.own.lt _ q).1; omega)) (by omega) _ _ _ _, h.bs, h.mn, h.ng, by have := hf.b.size; simp; omega, below4s (h.bel.trans (hf.below (by omega))) (Nat.le_refl _) _ _ _ _⟩
  have e1 : k ≠ w.heap.size := by have := h.bs; omega
  rw [Below.heap_setCell _ ⟨w.heap.size, 3, none⟩ _ _ e1, Below.heap_setCell _ ⟨w.heap.size, 2, none⟩ _ _ e1, Below.heap_setCell _ ⟨w.heap.size, 1, none⟩ _ _ e1, Below.heap_setCell _ ⟨w.heap.size, 0, none⟩ _ _ e1]
end
set_option maxRecDepth 100000 in
set_option maxHeartbeats 8000000 in
theorem lRun_any {A B : Option Addr} {n c m k : Nat} {s : Sto} {more : Int} {w : World} (h : StA w A B n c m k s) (_hm : (Lit.int .i64 more).wf = true) :
    Calls Tryz.prog 19 #[.agg #[.slice A n c, .slice B m k, .int .i64 s.rm, .int .i64 s.ck], .int .i64 more] w (GivesSX (sRun s more) w) := by
  obtain ⟨l, es, rm, ck⟩ := s
  obtain rfl : n = l.length := h.hr.len
  obtain rfl : m = es.length := h.he.len
  have hal := ((Below.refl w.heap.size w).alloc (Nat.le_refl _) (.cells #[.slice A l.length c, .slice B es.length k, .int .i64 rm, .int .i64 ck] 25)).alloc (by simp) (.cells #[.slice none 0 0, .slice none 0 0, .int .i64 0, .int .i64 0] 25)
  have hb1 := (Blk.new w 25 [.slice A l.length c, .slice B es.length k, .int .i64 rm, .int .i64 ck]).alloc (.cells #[.slice none 0 0, .slice none 0 0, .int .i64 0, .int .i64 0] 25)
  have hb2 := Blk.new (w.alloc (.cells #[.slice A l.length c, .slice B es.length k, .int .i64 rm, .int .i64 ck] 25)) 25 [.slice none 0 0, .slice none 0 0, .int .i64 0, .int .i64 0]
  have hsz : (w.alloc (.cells #[.slice A l.length c, .slice B es.length k, .int .i64 rm, .int .i64 ck] 25)).heap.size = w.heap.size + 1 := by simp
  rw [hsz] at hb2
  have HC := Lib.hid (lCheck_any (h.below hal))
  obtain ⟨a0, a1, a2, a3⟩ := blk4 hb1
  obtain ⟨X, hX⟩ : ∃ X, sRun ⟨l, es, rm, ck⟩ more = X := ⟨_, rfl⟩
  rw [hX]
  unfold sRun at hX
  clear hsz
  by_cases q : sErr ⟨l, es, rm, ck⟩ = 0
  · rw [if_neg (by simpa using q)] at hX
    rw [q] at HC
    have hok := sErr_zero.1 q
    have HL := Lib.hid (fun (W : World) (hb : Below w.heap.size w W) => lacks_any A l.length c l rm more W (h.hr.below hb))
    by_cases p : (rL l rm more).2 = 0
    · rw [if_neg (by simpa using p)] at hX
      obtain ⟨hm0, hm4⟩ := rL_range p
      change (if (rL l rm more).1 = 0 then _ else _) = _ at hX
      obtain ⟨lk, hlk⟩ : ∃ lk, lkB l rm more = lk := ⟨_, rfl⟩
      have HCP := Lib.hid (fun (W : World) (hb : Below w.heap.size w W) => lCopyK (h.below hb) (bsErr_zero.1 hok.be).1 (xsErr_zero.1 hok.xe).1)
      have HLK := Lib.hid (fun (W : World) (A' B' : Option Addr) (c' k' : Nat) (hr : KRd kBl W A' l.length c' l) => (by have := evLacks_any A' B' l.length c' es.length k' l rm ck more W hr; rw [show ((rL l rm more).2 == 0 && decide (0 < (rL l rm more).1)) = lk from hlk] at this; exact this : Calls Tryz.prog 46 #[.agg #[.slice A' l.length c', .slice B' es.length k', .int .i64 rm, .int .i64 ck], .int .i64 more] W fun e w' => e = .returned (.bool lk) ∧ Below W.heap.size W w'))
      have HKON := Lib.hid h.hK
      have HM := Lib.hid (And.intro hm0 hm4)
      have H10 : Hid (es.length ≤ 10) := (xsErr_zero.1 hok.xe).1
      have hlok := lacks_ok hok hm0 hm4
      -- what the loop starts from
      obtain ⟨Y, F, hYF, hYok, hYe, hYr, hYc, hYl⟩ : ∃ (Y : Sto) (F : Nat), sGo more F Y [] = X ∧ Y.ok ∧ Y.es = es ∧ Y.rm = rm ∧ Y.ck = ck ∧ (es.length < F ∧ Y = if lk then sClean ⟨l, es, rm, ck⟩ else ⟨l, es, rm, ck⟩) := by
        have hdl := lkB_ok hok hm0 hm4
        have hdl2 : lk = decide (rm < wrap64 (uS l + more)) := hlk.symm.trans hdl
        cases lk with
        | true =>
          have hlt : rm < wrap64 (uS l + more) := of_decide_eq_true hdl2.symm
          have h1 : ¬ (rL l rm more).1 = 0 := by
            intro q0
            unfold lkB at hlk
            rw [q0] at hlk
            simp at hlk
          rw [if_neg h1] at hX
          exact ⟨_, _, hX, clean_ok hok, rfl, rfl, rfl, Nat.lt_succ_self _, rfl⟩
        | false =>
          have hlt : ¬ rm < wrap64 (uS l + more) := of_decide_eq_false hdl2.symm
          have h1 : (rL l rm more).1 = 0 := by
            simp only at hlok
            rw [hlok]
            have := more_small hok hm0 hm4
            simp only at this
            rw [this] at hlt
            exact if_neg (by omega)
          rw [if_pos h1] at hX
          refine ⟨⟨l, es, rm, ck⟩, es.length + 1, ?_, hok, rfl, rfl, rfl, Nat.lt_succ_self _, rfl⟩
          rw [sGo, if_neg hlt]
          exact hX
      have HX := Lib.hid (And.intro hYF (And.intro hYok (And.intro hYe (And.intro hYr (And.intro hYc hYl)))))
      have HOK := Lib.hid hok
      rw [show rL l rm more = ((rL l rm more).1, 0) by rw [← p]] at HL
      generalize (rL l rm more).1 = LK at *
      clear hX hok q p hlk h hlok hYF hYok hYe hYr hYc hYl
      go_enter Tryz.func19, Tryz.ntmps19
      go_wp2_with fail
      with_reducible refine HC.out.mono ?_
      rintro e w1 ⟨rfl, hc1⟩
      have k1 := hb1.below hc1 hb1.lt
      have k2 := hb2.below hc1 hb2.lt
      have hbB := below_step hal hc1
      clear HC hb1 hb2 hal hc1 a0 a1 a2 a3
      obtain ⟨a0, a1, a2, a3⟩ := blk4 k1
      go_wp2_with fail
      with_reducible refine (HL.out _ hbB).mono ?_
      rintro e w2 ⟨rfl, hc2⟩
      have p1 := k1.below hc2 k1.lt
      have p2 := k2.below hc2 k2.lt
      have hbC := below_step hbB hc2
      clear HL k1 k2 hbB hc2 a0 a1 a2 a3
      obtain ⟨a0, a1, a2, a3⟩ := blk4 p1
      go_wp2_with fail
      with_reducible refine (HCP.out _ hbC).mono ?_
      rintro e w3 ⟨M, g1, g2, hs1, hs2, rfl, hm1, hm2, hMz, hO, hc3⟩
      have hpl := p2.lt
      have r1 := p1.below hc3 p1.lt
      have r2 := p2.below hc3 p2.lt
      have hbD := below_step hbC hc3
      simp only at hm1 hm2 hO
      have hz3 := hc3.size
      have s1 := r1.put4s (.slice (some ⟨g1, 0, none⟩) l.length l.length) (.slice (some ⟨g2, 0, none⟩) es.length es.length) (.int .i64 rm) (.int .i64 ck)
      have s2 := r2.far4s (q := w.heap.size) (by omega) (.slice (some ⟨g1, 0, none⟩) l.length l.length) (.slice (some ⟨g2, 0, none⟩) es.length es.length) (.int .i64 rm) (.int .i64 ck)
      have hbE := below4s hbD (q := w.heap.size) (Nat.le_refl _) (.slice (some ⟨g1, 0, none⟩) l.length l.length) (.slice (some ⟨g2, 0, none⟩) es.length es.length) (.int .i64 rm) (.int .i64 ck)
      have hO4 := hO.keep (w' := ((((w3.setCell ⟨w.heap.size, 0, none⟩ (.slice (some ⟨g1, 0, none⟩) l.length l.length)).setCell ⟨w.heap.size, 1, none⟩ (.slice (some ⟨g2, 0, none⟩) es.length es.length)).setCell ⟨w.heap.size, 2, none⟩ (.int .i64 rm)).setCell ⟨w.heap.size, 3, none⟩ (.int .i64 ck))) (by simp) hMz (fun k h1 _ => by
        have e1 : k ≠ w.heap.size := by omega
        rw [Below.heap_setCell _ ⟨w.heap.size, 3, none⟩ _ _ e1, Below.heap_setCell _ ⟨w.heap.size, 2, none⟩ _ _ e1, Below.heap_setCell _ ⟨w.heap.size, 1, none⟩ _ _ e1, Below.heap_setCell _ ⟨w.heap.size, 0, none⟩ _ _ e1])
      obtain ⟨z0, z1, z2, z3⟩ := blk4 r1
      obtain ⟨y0, y1, y2, y3⟩ := blk4z r1
      have hs34 : ((((w3.setCell ⟨w.heap.size, 0, none⟩ (.slice (some ⟨g1, 0, none⟩) l.length l.length)).setCell ⟨w.heap.size, 1, none⟩ (.slice (some ⟨g2, 0, none⟩) es.length es.length)).setCell ⟨w.heap.size, 2, none⟩ (.int .i64 rm)).setCell ⟨w.heap.size, 3, none⟩ (.int .i64 ck)).heap.size = w3.heap.size := by simp
      have hBs : w.heap.size + 2 ≤ w2.heap.size + 2 := by omega
      generalize w2.heap.size + 2 = Bs at *
      clear HCP p1 p2 hbC hO hbD r1 r2 a0 a1 a2 a3 hc3
      go_upto_region 8 with fail
      generalize hw4 : ((((w3.setCell ⟨w.heap.size, 0, none⟩ (.slice (some ⟨g1, 0, none⟩) l.length l.length)).setCell ⟨w.heap.size, 1, none⟩ (.slice (some ⟨g2, 0, none⟩) es.length es.length)).setCell ⟨w.heap.size, 2, none⟩ (.int .i64 rm)).setCell ⟨w.heap.size, 3, none⟩ (.int .i64 ck)) = w4 at *
      clear hw4 z0 z1 z2 z3 y0 y1 y2 y3
      rw [← hs34] at hO4 hMz
      clear hs34
      obtain ⟨a0, a1, a2, a3⟩ := blk4 s1
      have hr4 := hO4.rd1
      rw [hm1, show hs1.length = l.length by rw [← hm1, List.length_map]] at hr4
      have HK4 := Lib.hid (HLK.out w4 (some ⟨g1, 0, none⟩) (some ⟨g2, 0, none⟩) l.length es.length hr4)
      clear HLK hr4
      go_wp2_with fail
      with_reducible refine HK4.out.mono ?_
      rintro e w5 ⟨rfl, hb5⟩
      have v5 := s1.below hb5 s1.lt
      have r5 := s2.below hb5 s2.lt
      have hO5 := hO4.below hb5
      have hbF := below_step hbE hb5
      have hN5 : w4.heap.size ≤ w5.heap.size := hb5.size
      have HYl := HX.out.2.2.2.2.2.2
      clear HK4 s1 s2 hO4 hbE hb5 a0 a1 a2 a3
      obtain ⟨a0, a1, a2, a3⟩ := blk4 v5
      go_upto_if 36 with fail
      go_cut [36] from 36 to 38 (fun _ wx => ∃ hs' zs' : List (Bl × Hd), Blk wx w.heap.size 25 [.slice (some ⟨g1, 0, none⟩) Y.bs.length l.length, .slice (some ⟨g2, 0, none⟩) es.length es.length, .int .i64 rm, .int .i64 ck] ∧ Blk wx (w.heap.size + 1) 25 [.slice none 0 0, .slice none 0 0, .int .i64 0, .int .i64 0] ∧
        OSt wx Bs M w4.heap.size g1 g2 l.length es.length 43 54 hs' zs' hs2 [] ∧ hs'.map Prod.fst = Y.bs ∧ w4.heap.size ≤ wx.heap.size ∧ Below w.heap.size w wx)
      case first =>
        cases lk with
        | false =>
          have hYb : l = Y.bs := by rw [HYl]; rfl
          have HYb := Lib.hid hYb
          clear hYb HYl
          go_wp2
          go_meet
          exact ⟨hs1, [], by rw [← HYb.out]; exact v5, r5, hO5, by rw [← HYb.out]; exact hm1, hN5, hbF⟩
        | true =>
          have hYb : (sClean ⟨l, es, rm, ck⟩).bs = Y.bs := by rw [HYl]; rfl
          have HCN := clean_os (HKON.out.below hbF) hO5 hm1 hm2 HOK.out
          rw [hYb] at HCN
          have HCN2 := Lib.hid HCN
          have hg1 := hO5.k1.ge
          clear hYb HYl HCN
          go_wp2_with fail
          with_reducible refine HCN2.out.mono ?_
          rintro e w6 ⟨hs', zs', rfl, hm', hO6, hf6⟩
          have v6 := hf6.blk v5 (by omega)
          have r6 := hf6.blk r5 (by omega)
          have hbG := hbF.trans (hf6.below (by omega))
          have hz6 := hf6.b.size
          obtain ⟨z0, z1, z2, z3⟩ := blk4 v6
          obtain ⟨y0, y1, y2, y3⟩ := blk4z v6
          have HM' := Lib.hid hm'
          clear hm' v5 r5 hO5 hf6 a0 a1 a2 a3
          go_wp2
          go_meet
          exact ⟨hs', zs', v6.put4s _ _ _ _, r6.far4s (by omega) _ _ _ _, hO6.keep (by simp) hMz (fun k k1 _ => by
            have e1 : k ≠ w.heap.size := by omega
            rw [Below.heap_setCell _ ⟨w.heap.size, 3, none⟩ _ _ e1, Below.heap_setCell _ ⟨w.heap.size, 2, none⟩ _ _ e1, Below.heap_setCell _ ⟨w.heap.size, 1, none⟩ _ _ e1, Below.heap_setCell _ ⟨w.heap.size, 0, none⟩ _ _ e1]), HM'.out, by simp; omega, below4s hbG (Nat.le_refl _) _ _ _ _⟩
      case rest =>
        obtain ⟨hs', zs', v6, r6, hO6, hm6, hN6, hbG⟩ := hcut
        rename World => w6
        clear v5 r5 hO5 hbF hN5 a0 a1 a2 a3 HYl HOK hm1
        generalize w4.heap.size = N at *
        have hI : RuI w Bs M N g1 g2 l.length es.length w6.heap.size hs' zs' hs2 [] Y [] (.slice none 0 0) w6 :=
          ⟨by rw [HX.out.2.2.1, HX.out.2.2.2.1, HX.out.2.2.2.2.1]; exact v6, r6, hO6, hm6, by rw [HX.out.2.2.1]; exact hm2, World.ownsRow_nil _ _ _ _, by omega, hMz, hN6, Nat.le_refl _, hbG⟩
        clear v6 r6 hO6 hm6 hN6 hbG hm2
        generalize w6.heap.size = G at *
        go_upto_region 10 with fail
        go_wp2
        go_loopw [10] (fun v wr => ∃ (y : Sto) (gone : List (List UInt8)) (f : Nat) (hs1 zs1 : List (Bl × Hd)) (hs2 zs2 : List (En × Hd)), RuI w Bs M N g1 g2 l.length es.length G hs1 zs1 hs2 zs2 y gone v wr ∧
          Hid (sGo more f y gone = X ∧ y.ok ∧ y.es.length < f ∧ gone.length + y.es.length ≤ 10)) (fun v _ => 11 - lenS v)
        case atStart => exact ⟨Y, [], F, hs', zs', hs2, [], hI, ⟨HX.out.1, HX.out.2.1, by rw [HX.out.2.2.1]; exact HX.out.2.2.2.2.2.1, by rw [HX.out.2.2.1]; simpa using H10.out⟩⟩
        case round =>
          clear hI HX
          obtain ⟨⟨L, M', rm', ck'⟩, gone, f, hs1, zs1, hs2, zs2, hE, HH⟩ := hrel
          have hok := HH.out.2.1
          have HRD := Lib.hid (go_round HH.out.1 HH.out.2.2.1)
          have hlk := lkB_ok hok HM.out.1 HM.out.2
          simp only at hlk
          obtain ⟨lk2, hlk2⟩ : ∃ lk2, lkB L rm' more = lk2 := ⟨_, rfl⟩
          rw [hlk2] at hlk
          have hrd1 := hE.os.rd1
          rw [hE.m1, show hs1.length = L.length from (map_len' hE.m1).symm] at hrd1
          have HK7 : Hid (Calls Tryz.prog 46 #[.agg #[.slice (some ⟨g1, 0, none⟩) L.length l.length, .slice (some ⟨g2, 0, none⟩) M'.length es.length, .int .i64 rm', .int .i64 ck'], .int .i64 more] wr fun e w' => e = .returned (.bool lk2) ∧ Below wr.heap.size wr w') := by
            have := evLacks_any (some ⟨g1, 0, none⟩) (some ⟨g2, 0, none⟩) L.length l.length M'.length es.length L rm' ck' more wr hrd1
            rw [show ((rL L rm' more).2 == 0 && decide (0 < (rL L rm' more).1)) = lk2 from hlk2] at this
            exact this
          have HLK := Lib.hid hlk
          obtain ⟨e0, e1, e2, e3⟩ := blk4 hE.var
          simp only at e0 e1 e2 e3
          clear hlk hlk2 hrd1
          go_wp2_with fail
          with_reducible refine HK7.out.mono ?_
          rintro e w7 ⟨rfl, hb7⟩
          have hE7 := hE.below hb7
          obtain ⟨P0, p0, hv0⟩ := own_slice hE.own
          have HV0 := Lib.hid hv0
          clear hv0
          clear HK7 hE hb7 e0 e1 e2 e3
          cases lk2 with
          | false =>
            have HF : Hid (X = (0, ⟨L, M', rm', ck'⟩, gone)) := HRD.out.1 (by have := of_decide_eq_false HLK.out.symm; first | exact this | exact Int.not_lt.1 this)
            obtain ⟨f0, f1, f2, f3⟩ := blk4 hE7.var
            obtain ⟨z0, z1, z2, z3⟩ := blk4 hE7.res
            obtain ⟨y0, y1, y2, y3⟩ := blk4z hE7.res
            simp only at f0 f1 f2 f3
            obtain ⟨q1, q2, q3, q4⟩ := hE7.lts
            have hn := hE7.os.new1
            have hN := hE7.os.new2
            rw [hE7.m1, show hs1.length = L.length from (map_len' hE7.m1).symm] at hn
            rw [hE7.m2, show hs2.length = M'.length from (map_len' hE7.m2).symm] at hN
            have hbs := hE7.bs
            have hgM := hE7.os.k1.ge
            have hgM2 := hE7.os.m1.1
            have hP3 := Lib.hid (fun (x y z u : Value) => own_rdK (own_set4 hE7.own (g := w.heap.size + 1) (by omega) x y z u))
            have hv0 := HV0.out
            subst hv0
            have hbel := hE7.bel
            have hres := Lib.hid hE7.res
            clear HRD HLK HH hE7
            go_wp2
            refine bodyPost_ret (results_cell_row3 rfl _ _ (w.heap.size + 1) 25 _ (0, 0) _ rfl (hres.out.put4s _ _ _ _) Tryz.underlying25 rfl store_size) rfl ?_
            rw [HF.out]
            obtain ⟨P', pc', hpe, hP', hPn', -⟩ := hP3.out _ _ _ _
            injection hpe with hpe1 hpe2 hpe3
            subst hpe1; subst hpe3
            exact ⟨_, _, _, _, _, _, rfl, (hn.set4s (by omega) _ _ _ _).rebase (by omega), (hN.set4s (by omega) _ _ _ _).rebase (by omega), hP', hPn', below4s hbel (by omega) _ _ _ _⟩
          | true =>
            have hrd2 := hE7.os.rd2
            rw [hE7.m2, show hs2.length = M'.length from (map_len' hE7.m2).symm] at hrd2
            have hO := iold_any (some ⟨g2, 0, none⟩) M'.length es.length M' w7 hrd2
            rcases HRD.out.2 (of_decide_eq_true HLK.out.symm) with ⟨hxo, hXR⟩ | ⟨i, hi, hxo, hXR⟩
            · have HF := Lib.hid hXR
              rw [hxo] at hO
              have HO := Lib.hid hO
              obtain ⟨f0, f1, f2, f3⟩ := blk4 hE7.var
              simp only at f0 f1 f2 f3
              clear hO hxo hXR HRD HLK HH hrd2 HV0
              go_wp2_with fail
              with_reducible refine HO.out.mono ?_
              rintro e w8 ⟨rfl, hb8⟩
              have hE8 := hE7.below hb8
              obtain ⟨z0, z1, z2, z3⟩ := blk4 hE8.res
              obtain ⟨y0, y1, y2, y3⟩ := blk4z hE8.res
              have hres := Lib.hid hE8.res
              have hbel := hE8.bel
              clear hE7 hE8 hb8 f0 f1 f2 f3 HO
              go_wp2
              refine bodyPost_ret (results_cell_row3 rfl _ _ (w.heap.size + 1) 25 _ (0, 0) _ rfl (hres.out.put4s _ _ _ _) Tryz.underlying25 rfl store_size) rfl ?_
              rw [HF.out]
              exact givesSX_no rfl (below4s hbel (by omega) _ _ _ _)
            · have HXR := Lib.hid hXR
              rw [hxo] at hO
              have HO := Lib.hid hO
              obtain ⟨f0, f1, f2, f3⟩ := blk4 hE7.var
              simp only at f0 f1 f2 f3
              clear hO hxo hXR HRD HLK
              go_wp2_with fail
              with_reducible refine HO.out.mono ?_
              rintro e w8 ⟨rfl, hb8⟩
              have hE8 := hE7.below hb8
              obtain ⟨bb, off, D, dn, dc, hbo, hc0, -, -, -, -, -⟩ := (hrd2.below hb8).entry hi
              injection hbo with hbo
              injection hbo with hbb hoo
              subst hbb; subst hoo
              rw [Nat.zero_add] at hc0
              have hcapM := hrd2.cap
              have h10 := HH.out.2.2.2
              try simp only at h10
              have hi' : (i : Int) < (M'.length : Int) := by omega
              obtain ⟨KY, hKY⟩ : ∃ KY, M'[i].ky = KY := ⟨_, rfl⟩
              rw [hKY] at hc0 HXR
              obtain ⟨i0, hi0, hz0, hz1, hz2⟩ := info_parts str_info
              have hls := less_ok hok i
              clear f0 f1 f2 f3 HO hrd2 hKY hE7 hb8
              obtain ⟨f0, f1, f2, f3⟩ := blk4 hE8.var
              try simp only at f0 f1 f2 f3
              have hown8 := hE8.own
              have hgz8 := hE8.gz
              go_upto_region 16 with (at_builtin; refine wpList_append1' rfl (.tmp 51) (.tmp 58) _ rfl Tryz.underlying26 hi0 hz0 hz1 hz2 rfl (by omega) _ _ _ rfl hown8 [.string (str KY)] rfl (by simp [Value.oneCell']) (by first | rfl | simp [Act.eval]) (by omega) (by unfold maxLen; omega) hgz8 ?_; rintro v9 w9 hA9)
              have hE9 := hE8.snoc hA9
              clear hE8 hA9 hown8 hgz8 hc0 f0 f1 f2 f3
              obtain ⟨f0, f1, f2, f3⟩ := blk4 hE9.var
              try simp only at f0 f1 f2 f3
              have HD := delete_os hE9.os hE9.m2 hi
              try simp only at HD
              obtain ⟨ME, hME⟩ : ∃ ME, M'.eraseIdx i = ME := ⟨_, rfl⟩
              rw [hME] at HD
              have HD2 := Lib.hid HD
              have hwr : IntKind.i64.wrap ((i : Int) + 1) = (i : Int) + 1 := IntWalk.i64_in _ (by omega)
              clear HD
              go_wp2_with fail
              with_reducible refine HD2.out.mono ?_
              rintro e wa ⟨hsd, zsd, rfl, hmd, hOd, hfd⟩
              obtain ⟨q1, q2, q3, q4⟩ := hE9.lts
              have va := hfd.blk hE9.var (by omega)
              obtain ⟨-, z1, -, -⟩ := blk4 va
              obtain ⟨-, y1, -, -⟩ := blk4z va
              try simp only at z1
              have hEa := hE9.del hOd hmd hfd
              have hls' : (⟨L, ME, rm', ck'⟩ : Sto).ok := by rw [← hME]; exact hls
              clear HD2 hE9 hmd hOd hfd va f0 f1 f2 f3
              obtain ⟨f0, f1, f2, f3⟩ := blk4 hEa.var
              try simp only at f0 f1 f2 f3
              go_upto_region 17 with fail
              generalize hwb : wa.setCell ⟨w.heap.size, 1, none⟩ (.slice (some ⟨g2, 0, none⟩) ME.length es.length) = wb at *
              clear hwb z1 y1
              have HCN := clean_os (HKON.out.below hEa.bel) hEa.os hEa.m1 hEa.m2 hls'
              have HY : Hid (sClean (sLess ⟨L, M', rm', ck'⟩ i) = ⟨(sClean ⟨L, ME, rm', ck'⟩).bs, ME, rm', ck'⟩) := by show _ = _; rw [← hME]; rfl
              have HYO : Hid ((⟨(sClean ⟨L, ME, rm', ck'⟩).bs, ME, rm', ck'⟩ : Sto).ok ∧ ME.length + 1 = M'.length) := by
                refine ⟨clean_ok hls', ?_⟩
                have := less_len (y := ⟨L, M', rm', ck'⟩) hi
                rw [HY.out] at this
                exact this
              rw [HY.out] at HXR
              try simp only at HCN
              generalize (sClean ⟨L, ME, rm', ck'⟩).bs = L' at *
              have HCN2 := Lib.hid HCN
              clear HCN HY hls hls' hME hok
              go_wp2_with fail
              with_reducible refine HCN2.out.mono ?_
              rintro e wc ⟨hsc, zsc, rfl, hmc, hOc, hfc⟩
              have vc := hfc.blk hEa.var (by omega)
              obtain ⟨z0, z1, z2, z3⟩ := blk4 vc
              obtain ⟨y0, y1, y2, y3⟩ := blk4z vc
              try simp only at z0 z1 z2 z3
              have hEc := hEa.cln hOc hmc hfc
              obtain ⟨P7, p7, hv7⟩ := own_slice hEa.own
              rw [List.length_append, List.length_singleton] at hv7
              subst hv7
              have hv0 := HV0.out
              subst hv0
              clear HCN2 hEa hmc hOc hfc vc f0 f1 f2 f3
              go_wp2
              go_roundw
              case rel => exact ⟨⟨L', ME, rm', ck'⟩, gone ++ [KY], f - 1, hsc, zsc, hsd, zsd, hEc, ⟨HXR.out, HYO.out.1, by have h1 := HYO.out.2; have h2 := HH.out.2.2.1; change M'.length < f at h2; show ME.length < f - 1; omega, by have := HYO.out.2; rw [List.length_append]; simp; omega⟩⟩
              case measure => have := HYO.out.2; simp [lenS] <;> omega
    · rw [if_pos (by simpa using p)] at hX
      obtain ⟨⟨x1, E⟩, hrl⟩ : ∃ r, rL l rm more = r := ⟨_, rfl⟩
      rw [hrl] at HL p
      have HX2 : Hid ((E, sNil, []) = X) := by show _ = _; rw [← hX]; show _ = ((rL l rm more).2, sNil, _); rw [hrl]
      try simp only at HL p
      have d1 : (E != 0) = true := by rw [bne_iff_ne]; exact p
      clear hX hok q p hrl h
      go_enter Tryz.func19, Tryz.ntmps19
      go_wp2_with fail
      with_reducible refine HC.out.mono ?_
      rintro e w1 ⟨rfl, hc1⟩
      have k1 := hb1.below hc1 hb1.lt
      have k2 := hb2.below hc1 hb2.lt
      have hbB := below_step hal hc1
      clear HC hb1 hb2 hal hc1 a0 a1 a2 a3
      obtain ⟨a0, a1, a2, a3⟩ := blk4 k1
      go_wp2_with fail
      with_reducible refine (HL.out _ hbB).mono ?_
      rintro e w2 ⟨rfl, hc2⟩
      have p2 := k2.below hc2 k2.lt
      have hbC := below_step hbB hc2
      have hk2 := p2.lt
      clear k1 k2 hbB hc2 a0 a1 a2 a3
      obtain ⟨z0, z1, z2, z3⟩ := blk4 p2
      obtain ⟨y0, y1, y2, y3⟩ := blk4z p2
      go_wp2
      refine bodyPost_ret (results_cell_row3 rfl _ _ (w.heap.size + 1) 25 _ (0, 0) _ rfl (p2.put4s _ _ _ _) Tryz.underlying25 rfl store_size) rfl ?_
      rw [← HX2.out]
      exact givesSX_no rfl (below4s hbC (by omega) _ _ _ _)
  · rw [if_pos (by simpa using q)] at hX
    have HX := Lib.hid hX
    generalize sErr ⟨l, es, rm, ck⟩ = E at *
    have d1 : (E != 0) = true := by rw [bne_iff_ne]; exact q
    clear hX h q
    go_enter Tryz.func19, Tryz.ntmps19
    go_wp2_with fail
    with_reducible refine HC.out.mono ?_
    rintro e w1 ⟨rfl, hc1⟩
    have k2 := hb2.below hc1 hb2.lt
    have hbB := below_step hal hc1
    clear HC hb1 hb2 hal hc1 a0 a1 a2 a3
    have hk2 := k2.lt
    obtain ⟨z0, z1, z2, z3⟩ := blk4 k2
    obtain ⟨y0, y1, y2, y3⟩ := blk4z k2
    go_wp2
    refine bodyPost_ret (results_cell_row3 rfl _ _ (w.heap.size + 1) 25 _ (0, 0) _ rfl (k2.put4s _ _ _ _) Tryz.underlying25 rfl store_size) rfl ?_
    rw [← HX.out]
    exact givesSX_no rfl (below4s hbB (by omega) _ _ _ _)
end Go.Proofs.YtekbgopdeancpaaGreatDoor
