/- Texts that belong together: what the functions of the program and of the statements return. -/
import Derived.Test.YtekbgopdeancpaaGreatDoorQZg
import Derived.Test.YtekbgopdeancpaaGreatDoorGVA
import Derived.Test.YtekbgopdeancpaaGreatDoorGSB
import Derived.Test.YtekbgopdeancpaaGreatDoorGRC
import Derived.Test.YtekbgopdeancpaaGreatDoorQZf
import Derived.Test.YtekbgopdeancpaaGreatDoorGRB
import Derived.Deep.RegionHeldLaw
import Derived.Deep.CutBlock
import Derived.Deep.CutRange
import Derived.Test.YtekbgopdeancpaaGreatDoorQZc
import Derived.Deep.RegionLaw
import Derived.Test.YtekbgopdeancpaaGreatDoorGVB
import Derived.Test.YtekbgopdeancpaaGreatDoorGW
import Derived.Test.YtekbgopdeancpaaGreatDoorGY
import Derived.Test.YtekbgopdeancpaaGreatDoorGY
/- The reference's Wasted. -/
namespace Go.Proofs.YtekbgopdeancpaaGreatDoor
open Go.RowKit
set_option maxRecDepth 100000 in
set_option maxHeartbeats 4000000 in
theorem wasted_any {A B : Option Addr} {n c m k : Nat} {s : Sto} {w : World} (h : StA w A B n c m k s) :
    Calls Tryz.prog 14 #[.agg #[.slice A n c, .slice B m k, .int .i64 s.rm, .int .i64 s.ck]] w (GivesTE (sWasted s) w) := by
  obtain ⟨l, es, rm, ck⟩ := s
  obtain rfl : n = l.length := h.hr.len
  obtain rfl : m = es.length := h.he.len
  obtain ⟨i0, hi0, hz0, hz1, hz2⟩ := info_parts str_info
  have hcap := h.hr.cap
  unfold maxLen at hcap
  have hal := (Below.refl w.heap.size w).alloc (Nat.le_refl _) (.cells #[.slice A l.length c, .slice B es.length k, .int .i64 rm, .int .i64 ck] 25)
  have hbk := Blk.new w 25 [.slice A l.length c, .slice B es.length k, .int .i64 rm, .int .i64 ck]
  have h0 := h.below hal
  have HF := Lib.hid (storeFault_any A B l.length c es.length k l es rm ck _ h0.hr h0.he h0.hgl h0.hge)
  have hg24 : sErr ⟨l, es, rm, ck⟩ = 0 → l.length ≤ 24 := fun q => (bsErr_zero.1 (sErr_zero.1 q).be).1
  have hrt : sErr ⟨l, es, rm, ck⟩ = 0 → (roots l es).length ≤ 824 := fun q => roots_few (sErr_zero.1 q)
  have hwo : sErr ⟨l, es, rm, ck⟩ = 0 → sWasted ⟨l, es, rm, ck⟩ = ((0 : Int), wFst (live ⟨l, es, rm, ck⟩) l l.length) := fun q => by
    rw [wasted_ok (sErr_zero.1 q)]
    unfold wFst
    rw [List.take_length]
    rfl
  have hwn : sErr ⟨l, es, rm, ck⟩ ≠ 0 → sWasted ⟨l, es, rm, ck⟩ = (sErr ⟨l, es, rm, ck⟩, []) := fun q => by unfold sWasted; rw [if_pos q]
  generalize sWasted ⟨l, es, rm, ck⟩ = X at *
  obtain ⟨E, hE⟩ : ∃ E, sErr ⟨l, es, rm, ck⟩ = E := ⟨_, rfl⟩
  rw [hE] at HF hg24 hrt hwo hwn
  obtain ⟨a0, a1, a2, a3⟩ := blk4 hbk
  have HA := Lib.hid h0
  clear h hE h0
  go_enter Tryz.func14, Tryz.ntmps14
  go_wp2_with fail
  with_reducible refine HF.out.mono ?_
  rintro e w1 ⟨rfl, hb1⟩
  have hbB := below_step hal hb1
  have k1 := hbk.below hb1 hbk.lt
  clear a0 a1 a2 a3
  obtain ⟨a0, a1, a2, a3⟩ := blk4 k1
  by_cases q : E = 0
  · have d1 : (E != 0) = false := by rw [bne_eq_false_iff_eq]; exact q
    have hg := hg24 q
    have hrs := hrt q
    have hX := hwo q
    obtain ⟨V, hV⟩ : ∃ V, live ⟨l, es, rm, ck⟩ = V := ⟨_, rfl⟩
    have HV : Hid (ris (rFrom l pOf (ris (roots l es))) = V) := hV
    rw [hV] at hX
    have HX := Lib.hid hX
    clear hX
    have h1 := HA.out.below hb1
    have hr1 : KRd kBl w1 A l.length c l := h1.hr
    have HRA : Hid (∀ W : World, Below w1.heap.size w1 W → Calls Tryz.prog 40 #[.agg #[.slice A l.length c, .slice B es.length k, .int .i64 rm, .int .i64 ck]] W (GivesTx V W)) := fun W hb => by
      have h2 := h1.below hb
      have := reachAll_any A B l.length c es.length k l es rm ck W h2.hr h2.he h2.hz (by omega)
      rw [HV.out] at this
      exact this
    clear hV HV hg24 hrt hwo hwn q h1 HA HF hal hbk hrs hb1
    go_wp2
    go_loopw [5, 16] (fun v s wr => ∃ i : Nat, i ≤ l.length ∧ s = .int .i64 i ∧ wr.ownsRow w1.heap.size 9 1 v (wFst V l i).length ((wFst V l i).map sv) ∧ Below w1.heap.size w1 wr) (fun _ s _ => l.length - (intOf s).toNat)
    case atStart => exact ⟨0, Nat.zero_le _, rfl, World.ownsRow_nil _ _ _ _, Below.refl _ _⟩
    case round =>
      obtain ⟨i, hi, rfl, hown, hbel⟩ := hrel
      by_cases hlt : i < l.length
      · obtain ⟨b, off, D, dn, dc, rfl, hc0, hc1, hc2, hc3, -, -⟩ := (hr1.below hbel).blob hlt
        have hii : (i : Int) < (l.length : Int) := by omega
        have HS := Lib.hid (wFst_step (V := V) hlt)
        have hlen := wFst_len V l i
        generalize wFst V l i = out at *
        generalize l[i] = x at *
        have hal2 := (Below.refl wr.heap.size wr).alloc (Nat.le_refl _) (.cells #[.string (str x.dg), .slice D dn dc, .int .i64 x.pn, .bool x.mr] 43)
        have hbk2 := Blk.new wr 43 [.string (str x.dg), .slice D dn dc, .int .i64 x.pn, .bool x.mr]
        have hown2 := own_below hown hal2
        have hbel2 := below_step hbel hal2
        have k2 := k1.below hbel2 k1.lt
        obtain ⟨lv, hlv⟩ : ∃ lv, (V.any fun t => x.dg == t) = lv := ⟨_, rfl⟩
        rw [hlv] at HS
        have HLV := Lib.hid hlv
        clear hlv hown hbel hal2
        go_upto_region 8 with fail
        generalize hw3 : wr.alloc (.cells [Value.string (str x.dg), Value.slice D dn dc, Value.int .i64 x.pn, Value.bool x.mr].toArray 43) = w3 at *
        clear hw3 hc0 hc1 hc2 hc3 a0 a1 a2 a3
        go_cut [25] from 20 to 25 (fun s25 wx => s25 = .bool (!lv) ∧ Below w3.heap.size w3 wx)
        case first =>
          have b0 := (Below.refl w3.heap.size w3).drew
          have hS : ∀ W : World, Below w3.heap.size w3 W → (W.cell? ⟨w.heap.size, 0, none⟩ = some (.slice (some ⟨b, off, none⟩) l.length c) ∧ W.cell? ⟨w.heap.size, 1, none⟩ = some (.slice B es.length k) ∧ W.cell? ⟨w.heap.size, 2, none⟩ = some (.int .i64 rm) ∧ W.cell? ⟨w.heap.size, 3, none⟩ = some (.int .i64 ck)) ∧ W.cell? ⟨wr.heap.size, 0, none⟩ = some (.string (str x.dg)) := fun W hb => ⟨blk4 (k2.below hb k2.lt), (blk4 (hbk2.below hb hbk2.lt)).1⟩
          go_region_held_law (fun W => (W.cell? ⟨w.heap.size, 0, none⟩ = some (.slice (some ⟨b, off, none⟩) l.length c) ∧ W.cell? ⟨w.heap.size, 1, none⟩ = some (.slice B es.length k) ∧ W.cell? ⟨w.heap.size, 2, none⟩ = some (.int .i64 rm) ∧ W.cell? ⟨w.heap.size, 3, none⟩ = some (.int .i64 ck)) ∧ W.cell? ⟨wr.heap.size, 0, none⟩ = some (.string (str x.dg)))
            (first | with_reducible exact hS _ b0 | with_reducible exact hS _ B1 | go_keep)
            (first
              | (go_at_call 40; (with_reducible refine (HRA.out _ (hbel2.trans (b0.mono hbel2.size))).mono ?_); rintro e v1 hgv; obtain ⟨A5, c5, rfl, hr5, -, -, hb⟩ := hgv.rd; have B1 := below_step b0 hb)
              | (go_at_call 39; (with_reducible refine (holds_any A5 _ c5 V x.dg _ hr5).mono ?_); rintro e v2 ⟨rfl, rfl⟩))
          all_goals
            go_wp2
            go_meet
            exact ⟨by rw [HLV.out], B1⟩
        case rest =>
          obtain ⟨rfl, B1⟩ := hcut
          rename World => w5
          have hown4 := own_below hown2 B1
          have hbel4 := hbel2.trans (B1.mono hbel2.size)
          have hbz := hbel4.size
          have g0 := (blk4 (hbk2.below B1 hbk2.lt)).1
          clear hbk2 k2 hown2 B1 HLV
          cases lv with
          | true =>
            have HO : Hid (wFst V l (i + 1) = out) := by show _ = _; rw [HS.out]; simp
            simp only [Bool.not_true]
            go_wp2
            go_roundw
            case rel => exact ⟨i + 1, by omega, by go_num, by rw [HO.out]; exact hown4, hbel4⟩
            case measure => simp [intOf] <;> omega
          | false =>
            have HO : Hid (wFst V l (i + 1) = out ++ [x.dg]) := by show _ = _; rw [HS.out]; simp
            simp only [Bool.not_false]
            go_wp2_with (at_builtin; refine wpList_append1' rfl (.tmp 26) (.tmp 29) _ rfl Tryz.underlying26 hi0 hz0 hz1 hz2 rfl (by omega) _ _ _ rfl hown4 [.string (str x.dg)] rfl (by simp [Value.oneCell']) (by first | rfl | simp [Act.eval]) (by omega) (by unfold maxLen; omega) hbz ?_; rintro v3 w6 ⟨hown3, hb3, hs3, -⟩)
            go_roundw
            case rel => exact ⟨i + 1, by omega, by go_num, by rw [HO.out]; exact own_snoc hown3, hbel4.trans hb3⟩
            case measure => simp [intOf] <;> omega
      · have hd2 : decide ((i : Int) < (l.length : Int)) = false := by rw [decide_eq_false_iff_not]; omega
        obtain rfl : i = l.length := by omega
        obtain ⟨A5, c5, rfl, hr5, hA5, -⟩ := own_rdK hown
        have hbC := below_step hbB hbel
        go_wp2
        go_ret2
        rw [HX.out]
        exact ⟨A5, c5, rfl, hr5, hA5, hbC⟩
  · have d1 : (E != 0) = true := by rw [bne_iff_ne]; exact q
    have HX := Lib.hid (hwn q)
    clear hwn hwo hg24 hrt q
    go_wp2
    go_ret2
    rw [HX.out]
    exact givesTE_no rfl hbB
end Go.Proofs.YtekbgopdeancpaaGreatDoor
/- Parts for the reference's reached. -/
namespace Go.Proofs.YtekbgopdeancpaaGreatDoor
open Go.RowKit
/-- the first blobs of those that are come to -/
def lFst (V : List (List UInt8)) (l : List Bl) (i : Nat) : List Bl := (l.take i).filter fun b => V.any fun t => b.dg == t
theorem lFst_step {V : List (List UInt8)} {l : List Bl} {i : Nat} (h : i < l.length) : lFst V l (i + 1) = lFst V l i ++ (if (V.any fun t => l[i].dg == t) then [l[i]] else []) := by
  unfold lFst
  rw [List.take_succ_eq_append_getElem h, List.filter_append]
  cases q : (V.any fun t => l[i].dg == t) <;> simp [q]
theorem lFst_len (V : List (List UInt8)) (l : List Bl) (i : Nat) : (lFst V l i).length ≤ i := by
  unfold lFst
  exact Nat.le_trans (List.length_filter_le ..) (List.length_take_le ..)
/-- two rows that are to be one -/
theorem two_rows {w3 w6 : World} {base : Nat} {v u : Value} {L1 L2 : List Bl} (h3 : KOwn kBl w3 base 43 v L1) (hB : base ≤ w3.heap.size) (h6 : KOwn kBl w6 w3.heap.size 43 u L2) (hb6 : Below w3.heap.size w3 w6) :
    ∃ (hs5 hs6 : List (Bl × Hd)) (A : Option Addr) (c : Nat), u = .slice A L2.length c ∧ hs5.map Prod.fst = L1 ∧ w6.ownsRow base 43 4 v L1.length (kBl.all hs5) ∧ (∀ x ∈ hs5, kBl.deep w6 x.1 x.2 ∧ ∀ k ∈ kBl.blocks x.2, base ≤ k ∧ k < w6.heap.size ∧ v.ownBlock ≠ some k) ∧
    hs6.map Prod.fst = L2 ∧ Rd w6 4 A L2.length c (kBl.all hs6) ∧ (A = none → c = 0) ∧ ∀ x ∈ hs6, kBl.deep w6 x.1 x.2 ∧ ∀ k ∈ kBl.blocks x.2, base ≤ k ∧ k < w6.heap.size ∧ v.ownBlock ≠ some k := by
  have hlt : ∀ k, v.ownBlock = some k → k < w3.heap.size := fun k q => by obtain ⟨_, _, hrw, _⟩ := h3.row; exact (hrw.lt k q).2
  obtain ⟨A, c, rfl, hs6, hm6, hr6, hA6, hB6, hd6⟩ := h6.new
  obtain ⟨hs5, hm5, hr5, hd5⟩ := (h3.below hb6).row
  exact ⟨hs5, hs6, A, c, rfl, hm5, hr5, hd5, hm6, hr6, hA6, fun x hx => ⟨(hd6 x hx).1, fun k hk => ⟨by have := ((hd6 x hx).2 k hk).1; omega, ((hd6 x hx).2 k hk).2, fun q => by have := hlt k q; have := ((hd6 x hx).2 k hk).1; omega⟩⟩⟩
theorem two_end {w6 w7 : World} {base : Nat} {v v7 : Value} {L1 L2 : List Bl} {hs5 hs6 : List (Bl × Hd)} (hm5 : hs5.map Prod.fst = L1) (hd5 : ∀ x ∈ hs5, kBl.deep w6 x.1 x.2 ∧ ∀ k ∈ kBl.blocks x.2, base ≤ k ∧ k < w6.heap.size ∧ v.ownBlock ≠ some k)
    (hm6 : hs6.map Prod.fst = L2) (hd6 : ∀ x ∈ hs6, kBl.deep w6 x.1 x.2 ∧ ∀ k ∈ kBl.blocks x.2, base ≤ k ∧ k < w6.heap.size ∧ v.ownBlock ≠ some k)
    (ho : w7.ownsRow base 43 4 v7 (L1.length + L2.length) (kBl.all hs5 ++ kBl.all hs6)) (hz : w6.heap.size ≤ w7.heap.size) (hf : Hid (∀ k, k < w6.heap.size → v.ownBlock ≠ some k → v7.ownBlock ≠ some k ∧ w7.heap[k]? = w6.heap[k]?)) :
    KOwn kBl w7 base 43 v7 (L1 ++ L2) := by
  have hl : L2.length = hs6.length := by rw [← hm6, List.length_map]
  have h7 := KOwn.app (K := kBl) (w := w6) (w' := w7) (v := v) (v' := v7) (m := hs6) hm5 hd5 hd6 (by rw [← hl]; exact ho) hz hf.out
  rw [hm6] at h7
  exact h7
/-- one blob, laid as a row of one -/
theorem one_krd {w : World} {g : Nat} {t : TypeId} {b : Bl} {D : Option Addr} {n c : Nat} (h : Blk w g t [.string (str b.dg), .slice D n c, .int .i64 b.pn, .bool b.mr]) (hr : Rd w 1 D n c (b.dt.map bv8)) (hD : D = none → c = 0) : KRd kBl w (some ⟨g, 0, none⟩) 1 1 [b] := by
  refine ⟨[(b, ⟨D, n, c⟩)], rfl, ?_, fun x hx => ?_⟩
  · rw [Kin.all_one]
    have := Blk.rd (xs := kBl.cells b ⟨D, n, c⟩) h (size := 4) (n := 1) (c := 1) (Nat.le_refl _) (by unfold maxLen; omega) (by rw [kBl.len]; decide)
    rwa [List.take_of_length_le (by rw [kBl.len]; decide)] at this
  · rcases List.mem_cons.1 hx with rfl | q
    · exact ⟨hr, hD⟩
    · cases q
end Go.Proofs.YtekbgopdeancpaaGreatDoor
/- The reference's reached. -/
namespace Go.Proofs.YtekbgopdeancpaaGreatDoor
open Go.RowKit
set_option maxRecDepth 100000 in
set_option maxHeartbeats 4000000 in
theorem reached_any {A B : Option Addr} {n c m k : Nat} {s : Sto} {w : World} (h : StA w A B n c m k s) (hT : (roots s.bs s.es).length * 16 ≤ 140737488351232) :
    Calls Tryz.prog 42 #[.agg #[.slice A n c, .slice B m k, .int .i64 s.rm, .int .i64 s.ck]] w (GivesSto (sClean s) w) := by
  obtain ⟨l, es, rm, ck⟩ := s
  obtain rfl : n = l.length := h.hr.len
  obtain ⟨j0, hj0, hw0, hw1, hw2⟩ := info_parts blob_info
  have hcap := h.hr.cap
  unfold maxLen at hcap
  have hz := h.hz
  have hal := ((Below.refl w.heap.size w).alloc (Nat.le_refl _) (.cells #[.slice A l.length c, .slice B m k, .int .i64 rm, .int .i64 ck] 25)).alloc (by simp) (.cells #[.slice none 0 0, .slice none 0 0, .int .i64 0, .int .i64 0] 25)
  have hb1 := (Blk.new w 25 [.slice A l.length c, .slice B m k, .int .i64 rm, .int .i64 ck]).alloc (.cells #[.slice none 0 0, .slice none 0 0, .int .i64 0, .int .i64 0] 25)
  have hb2 := Blk.new (w.alloc (.cells #[.slice A l.length c, .slice B m k, .int .i64 rm, .int .i64 ck] 25)) 25 [.slice none 0 0, .slice none 0 0, .int .i64 0, .int .i64 0]
  have hsz : (w.alloc (.cells #[.slice A l.length c, .slice B m k, .int .i64 rm, .int .i64 ck] 25)).heap.size = w.heap.size + 1 := by simp
  rw [hsz] at hb2
  clear hsz
  have HA := Lib.hid h
  have HRA := Lib.hid (reachAll_any A B l.length c m k l es rm ck _ (h.hr.below hal) (h.he.below hal) h.hz hT)
  have HCP := Lib.hid (fun (W : World) (hb : Below w.heap.size w W) => storeCopy_any A B l.length c m k l es rm ck W (h.hr.below hb) (h.he.below hb) h.hgl h.hge h.hz h.hz2)
  obtain ⟨V, hV⟩ : ∃ V, ris (rFrom l pOf (ris (roots l es))) = V := ⟨_, rfl⟩
  have hX : sClean ⟨l, es, rm, ck⟩ = ⟨lFst V l l.length, es, rm, ck⟩ := by
    unfold lFst
    rw [List.take_length, ← hV]
    rfl
  rw [hV] at HRA
  have HX := Lib.hid hX
  generalize sClean ⟨l, es, rm, ck⟩ = X at *
  obtain ⟨a0, a1, a2, a3⟩ := blk4 hb1
  clear hV hX h hT
  go_enter Tryz.func42, Tryz.ntmps42
  go_wp2_with fail
  with_reducible refine HRA.out.mono ?_
  rintro e w1 ⟨v1, rfl, hown1, hc1⟩
  obtain ⟨A1, c1, rfl, hr1, -, -⟩ := own_rdK hown1
  have k1 := hb1.below hc1 hb1.lt
  have k2 := hb2.below hc1 hb2.lt
  have hbB := below_step hal hc1
  clear HRA hb1 hb2 hal hc1 a0 a1 a2 a3 hown1
  obtain ⟨a0, a1, a2, a3⟩ := blk4 k1
  go_wp2_with fail
  with_reducible refine (HCP.out _ hbB).mono ?_
  rintro e w2 ⟨A2, c2, B2, d2, rfl, hN2, hM2, hc2⟩
  have p1 := k1.below hc2 k1.lt
  have p2 := k2.below hc2 k2.lt
  have hbC := below_step hbB hc2
  have hV2 := hr1.below hc2
  have hz12 := hc2.size
  have hp2 := k2.lt
  have hM3 := hM2
  clear HCP k1 k2 hbB hc2 hr1 a0 a1 a2 a3 hN2 hM2
  have bO := (Below.refl w2.heap.size w2).alloc (Nat.le_refl _) (.cells [Value.slice none 0 0, .slice B2 es.length d2, .int .i64 rm, .int .i64 ck].toArray 25)
  have q1 := p1.alloc (.cells [Value.slice none 0 0, .slice B2 es.length d2, .int .i64 rm, .int .i64 ck].toArray 25)
  have q2 := p2.alloc (.cells [Value.slice none 0 0, .slice B2 es.length d2, .int .i64 rm, .int .i64 ck].toArray 25)
  have oo := Blk.new w2 25 [.slice none 0 0, .slice B2 es.length d2, .int .i64 rm, .int .i64 ck]
  have hs3 : w2.heap.size < (w2.alloc (.cells [Value.slice none 0 0, .slice B2 es.length d2, .int .i64 rm, .int .i64 ck].toArray 25)).heap.size := by simp
  go_upto_region 4 with fail
  generalize hw3 : w2.alloc (.cells [Value.slice none 0 0, .slice B2 es.length d2, .int .i64 rm, .int .i64 ck].toArray 25) = w3 at *
  clear hw3
  obtain ⟨a0, a1, a2, a3⟩ := blk4 q1
  go_wp2
  go_loopw [15] (fun s wr => ∃ i : Nat, i ≤ l.length ∧ s = .int .i64 i ∧ ∃ v, KOwn kBl wr w3.heap.size 43 v (lFst V l i) ∧ Blk wr w2.heap.size 25 [v, .slice B2 es.length d2, .int .i64 rm, .int .i64 ck] ∧ Below w2.heap.size w2 wr ∧ w3.heap.size ≤ wr.heap.size) (fun s _ => l.length - (intOf s).toNat)
  case atStart => exact ⟨0, Nat.zero_le _, rfl, _, KOwn.nil _ _ _, oo, bO, Nat.le_refl _⟩
  case round =>
    clear oo bO q1 a0 a1 a2 a3
    obtain ⟨i, hi, rfl, v, hO, oB, hbel, hz3⟩ := hrel
    by_cases hlt : i < l.length
    · obtain ⟨b, off, D, dn, dc, rfl, hc0, hc1, hc2, hc3, hrD, hDn⟩ := (HA.out.hr.below (below_step hbC hbel)).blob hlt
      have hgx := HA.out.hgl _ (List.getElem_mem hlt)
      obtain ⟨Av, cv, rfl, -⟩ := hO.new
      have hnv := Lib.hid hO.upto.1
      have hgne : wr.heap.size ≠ w2.heap.size := by omega
      have hii : (i : Int) < (l.length : Int) := by omega
      have HS := Lib.hid (lFst_step (V := V) hlt)
      have hlen := lFst_len V l i
      generalize lFst V l i = L at *
      generalize l[i] = x at *
      have hal2 := (Below.refl wr.heap.size wr).alloc (Nat.le_refl _) (.cells #[.string (str x.dg), .slice D dn dc, .int .i64 x.pn, .bool x.mr] 43)
      have bb := Blk.new wr 43 [.string (str x.dg), .slice D dn dc, .int .i64 x.pn, .bool x.mr]
      have oB2 := oB.alloc (.cells #[.string (str x.dg), .slice D dn dc, .int .i64 x.pn, .bool x.mr] 43)
      have hO2 := hO.below hal2
      have hbel2 := hbel.trans (hal2.mono hbel.size)
      have hrD2 := hrD.below hal2
      have hz4 := Nat.le_trans hz3 hal2.size
      have hV4 := hV2.below hbel2
      obtain ⟨lv, hlv⟩ : ∃ lv, (V.any fun t => x.dg == t) = lv := ⟨_, rfl⟩
      rw [hlv] at HS
      have HLV := Lib.hid hlv
      clear hlv hO oB hbel hrD hz3
      go_upto_region 7 with fail
      generalize hw4 : wr.alloc (.cells [Value.string (str x.dg), .slice D dn dc, .int .i64 x.pn, .bool x.mr].toArray 43) = w4 at *
      clear hw4 hc0 hc1 hc2 hc3 hal2
      have HH : Hid (Calls Tryz.prog 39 #[.slice A1 V.length c1, .string (str x.dg)] w4 fun e w' => e = .returned (.bool lv) ∧ w4 = w') := by
        have := holds_any A1 _ c1 V x.dg w4 hV4
        rw [HLV.out] at this
        exact this
      obtain ⟨f0, f1, f2, f3⟩ := blk4 bb
      go_wp2_with fail
      with_reducible refine HH.out.mono ?_
      rintro e w5 ⟨rfl, rfl⟩
      clear HH HLV hV4
      cases lv with
      | false =>
        have HO : Hid (lFst V l (i + 1) = L) := by show _ = _; rw [HS.out]; simp
        go_wp2
        go_roundw
        case rel => exact ⟨i + 1, by omega, by go_num, _, by rw [HO.out]; exact hO2, oB2, hbel2, hz4⟩
        case measure => simp [intOf] <;> omega
      | true =>
        have HO : Hid (lFst V l (i + 1) = L ++ [x]) := by show _ = _; rw [HS.out]; simp
        clear HS
        have bD := bb.drew
        have oD := oB2.drew
        have hbA := ((Below.refl w4.heap.size w4).alloc (Nat.le_refl _) (.cells #[.string (str x.dg), .slice D dn dc, .int .i64 x.pn, .bool x.mr] 43)).drew
        have oA := (oB2.alloc (.cells #[.string (str x.dg), .slice D dn dc, .int .i64 x.pn, .bool x.mr] 43)).drew
        have bbA := (bb.alloc (.cells #[.string (str x.dg), .slice D dn dc, .int .i64 x.pn, .bool x.mr] 43)).drew
        have aA := (Blk.new w4 43 [.string (str x.dg), .slice D dn dc, .int .i64 x.pn, .bool x.mr]).drew
        have hkx := one_krd aA (hrD2.below hbA) hDn
        have hgx1 : ∀ p ∈ [x], p.good := fun p hp => by rcases List.mem_cons.1 hp with rfl | q; exact hgx; cases q
        have hOA := hO2.below hbA
        have hzA := Nat.le_trans hz4 hbA.size
        obtain ⟨o0, o1, o2, o3⟩ := blk4 oD
        obtain ⟨u0, u1, u2, u3⟩ := blk4 oA
        go_upto_region 8 with fail
        obtain ⟨l0, l1, l2, l3⟩ := blk4 bD
        go_region_law
          (first
            | (refine step_appendM (by rfl) (.tmp 24) (.tmp 27) _ (by rfl) Tryz.underlying22 hj0 hw0 hw1 hw2 rfl (by omega) (.slice Av L.length cv) _ _ (by rfl) hrow5 hr6 hA6 (kBl.all_one' hs6) (by first | rfl | simp [Act.eval]) (by simp only [List.length_cons, List.length_nil]; omega) (by unfold maxLen; simp only [List.length_cons, List.length_nil]; omega) hszD ?_; rintro v7 w7 ⟨hown7, hb7, hs7, hfar7⟩; obtain ⟨A7, c7, rfl, -, -, -⟩ := own_rdK hown7; have o7 := oC.below hb7 hs3; have b7 : Blk w7 wr.heap.size 43 [.string (str x.dg), .slice D dn dc, .int .i64 x.pn, .bool x.mr] := ((hfar7.out wr.heap.size b2.lt (fun q => Nat.lt_irrefl _ (hnv.out _ q))).2).trans b2; have b8 := fun u => b7.far (p := ⟨w2.heap.size, 0, none⟩) hgne u; obtain ⟨t0, t1, t2, t3⟩ := blk4 o7; obtain ⟨y0, y1, y2, y3⟩ := blk4z o7)
            | (go_simp; go_at_call 95; (with_reducible refine (blobsCopy_any _ _ _ [x] _ hkx hgx1 (by omega)).mono ?_); rintro e w6 ⟨v6, rfl, hown6, hb6⟩; obtain ⟨hs5, hs6, A6, c6, rfl, hm5, hrow5, hd5, hm6, hr6, hA6, hd6⟩ := two_rows hOA hzA hown6 hb6; have oC := oA.below hb6 oA.lt; have b2 := bbA.below hb6 bbA.lt; obtain ⟨r0, r1, r2, r3⟩ := blk4 oC; have hbD := hbel2.trans ((below_step hbA hb6).mono hbel2.size); have hszD := Nat.le_trans hzA hb6.size))
        all_goals
          go_wp2
          go_roundw
          case rel => exact ⟨i + 1, by omega, by go_num, _, by rw [HO.out]; exact (two_end hm5 hd5 hm6 hd6 hown7 hs7 hfar7).set1 hs3 _, by simpa using o7.put 0 _, (hbD.trans (hb7.mono (by omega))).setCell (p := ⟨w2.heap.size, 0, none⟩) (Nat.le_refl _) _, by simp; omega⟩
          case measure => simp [intOf] <;> omega
    · have hd2 : decide ((i : Int) < (l.length : Int)) = false := by rw [decide_eq_false_iff_not]; omega
      obtain rfl : i = l.length := by omega
      have q3 := q2
      obtain ⟨A5, c5, rfl, hN5⟩ := hO.new
      have hR := p2.below hbel p2.lt
      have hM5 := hM3.below hbel
      have hbE := below_step hbC hbel
      obtain ⟨o0, o1, o2, o3⟩ := blk4 oB
      obtain ⟨z0, z1, z2, z3⟩ := blk4 hR
      obtain ⟨y0, y1, y2, y3⟩ := blk4z hR
      clear q2
      go_wp2
      refine bodyPost_ret (results_cell_row rfl _ _ (w.heap.size + 1) 25 _ (0, 0) _ rfl (hR.put4s _ _ _ _) Tryz.underlying25 rfl store_size) rfl ?_
      rw [HX.out]
      exact ⟨A5, c5, B2, d2, rfl, (hN5.set4s (by have := hp2; omega) _ _ _ _).rebase (by omega), (hM5.set4s hp2 _ _ _ _).rebase (by omega), below4s hbE (by omega) _ _ _ _⟩
end Go.Proofs.YtekbgopdeancpaaGreatDoor
/- The reference's Cleaned. -/
namespace Go.Proofs.YtekbgopdeancpaaGreatDoor
open Go.RowKit
set_option maxRecDepth 100000 in
set_option maxHeartbeats 1000000 in
theorem cleaned_any {A B : Option Addr} {n c m k : Nat} {s : Sto} {w : World} (h : StA w A B n c m k s) :
    Calls Tryz.prog 17 #[.agg #[.slice A n c, .slice B m k, .int .i64 s.rm, .int .i64 s.ck]] w (GivesSN (sCleaned s) w) := by
  obtain ⟨l, es, rm, ck⟩ := s
  have hal := ((Below.refl w.heap.size w).alloc (Nat.le_refl _) (.cells #[.slice A n c, .slice B m k, .int .i64 rm, .int .i64 ck] 25)).alloc (by simp) (.cells #[.slice none 0 0, .slice none 0 0, .int .i64 0, .int .i64 0] 25)
  have hb1 := (Blk.new w 25 [.slice A n c, .slice B m k, .int .i64 rm, .int .i64 ck]).alloc (.cells #[.slice none 0 0, .slice none 0 0, .int .i64 0, .int .i64 0] 25)
  have hb2 := Blk.new (w.alloc (.cells #[.slice A n c, .slice B m k, .int .i64 rm, .int .i64 ck] 25)) 25 [.slice none 0 0, .slice none 0 0, .int .i64 0, .int .i64 0]
  have hsz : (w.alloc (.cells #[.slice A n c, .slice B m k, .int .i64 rm, .int .i64 ck] 25)).heap.size = w.heap.size + 1 := by simp
  rw [hsz] at hb2
  clear hsz
  have HW := Lib.hid (wasted_any (h.below hal))
  obtain ⟨a0, a1, a2, a3⟩ := blk4 hb1
  by_cases q : sErr ⟨l, es, rm, ck⟩ = 0
  · have hok := sErr_zero.1 q
    have hT : (roots l es).length * 16 ≤ 140737488351232 := by have := roots_few hok; simp only at this; omega
    have HR := Lib.hid (fun (W : World) (hb : Below w.heap.size w W) => reached_any (h.below hb) hT)
    rw [wasted_ok hok] at HW
    have HX := Lib.hid (cleaned_ok hok)
    generalize sCleaned ⟨l, es, rm, ck⟩ = X at *
    obtain ⟨⟨L, M, r, t⟩, hC⟩ : ∃ x, sClean ⟨l, es, rm, ck⟩ = x := ⟨_, rfl⟩
    rw [hC] at HR HX
    generalize sWaste ⟨l, es, rm, ck⟩ = V at *
    clear hC hok q hT h
    go_enter Tryz.func17, Tryz.ntmps17
    go_wp2_with fail
    with_reducible refine HW.out.mono ?_
    rintro e w2 ⟨A2, c2, rfl, hP2, -, hc2⟩
    have k1 := hb1.below hc2 hb1.lt
    have k2 := hb2.below hc2 hb2.lt
    have hbB := below_step hal hc2
    clear HW hb1 hb2 hal hc2 a0 a1 a2 a3 hP2
    obtain ⟨a0, a1, a2, a3⟩ := blk4 k1
    simp only
    go_wp2_with fail
    with_reducible refine (HR.out _ hbB).mono ?_
    rintro e w3 ⟨A3, c3, B3, d3, rfl, hN3, hM3, hc3⟩
    have hk2 := k2.lt
    have k3 := k2.below hc3 k2.lt
    have hbC := below_step hbB hc3
    clear HR k1 k2 hbB a0 a1 a2 a3
    obtain ⟨z0, z1, z2, z3⟩ := blk4 k3
    obtain ⟨y0, y1, y2, y3⟩ := blk4z k3
    go_wp2
    refine bodyPost_ret (results_cell_row3 rfl _ _ (w.heap.size + 1) 25 _ (0, 0) _ rfl (k3.put4s _ _ _ _) Tryz.underlying25 rfl store_size) rfl ?_
    rw [HX.out]
    exact ⟨A3, c3, B3, d3, rfl, (hN3.set4s hk2 _ _ _ _).rebase (by omega), (hM3.set4s hk2 _ _ _ _).rebase (by omega), below4s hbC (by omega) _ _ _ _⟩
  · have HX : Hid (sCleaned ⟨l, es, rm, ck⟩ = (sErr ⟨l, es, rm, ck⟩, sNil, 0)) := by show _ = _; unfold sCleaned; rw [if_pos q]
    have HX2 : Hid (sWasted ⟨l, es, rm, ck⟩ = (sErr ⟨l, es, rm, ck⟩, [])) := by show _ = _; unfold sWasted; rw [if_pos q]
    rw [HX2.out] at HW
    generalize sCleaned ⟨l, es, rm, ck⟩ = X at *
    generalize sErr ⟨l, es, rm, ck⟩ = E at *
    have d1 : (E != 0) = true := by rw [bne_iff_ne]; exact q
    clear h HX2 q
    go_enter Tryz.func17, Tryz.ntmps17
    go_wp2_with fail
    with_reducible refine HW.out.mono ?_
    rintro e w2 ⟨A2, c2, rfl, hP2, -, hc2⟩
    have hk2 := hb2.lt
    have k2 := hb2.below hc2 hb2.lt
    have hbB := below_step hal hc2
    clear HW hb1 hb2 hal hc2 a0 a1 a2 a3 hP2
    obtain ⟨z0, z1, z2, z3⟩ := blk4 k2
    obtain ⟨y0, y1, y2, y3⟩ := blk4z k2
    simp only
    go_wp2
    refine bodyPost_ret (results_cell_row3 rfl _ _ (w.heap.size + 1) 25 _ (0, 0) _ rfl (k2.put4s _ _ _ _) Tryz.underlying25 rfl store_size) rfl ?_
    rw [HX.out]
    exact givesSN_no rfl (below4s hbB (by omega) _ _ _ _)
end Go.Proofs.YtekbgopdeancpaaGreatDoor
/- The reference's Evicted. -/
namespace Go.Proofs.YtekbgopdeancpaaGreatDoor
open Go.RowKit
/-- what the loop's variables hold: rows that were made in the world w0 from block b on, and are as they were; texts of the call's own -/
structure EvI (w w0 : World) (b q G : Nat) (A B : Option Addr) (c d : Nat) (y : Sto) (gone : List (List UInt8)) (v : Value) (wr : World) : Prop where
  var : Blk wr q 25 [.slice A y.bs.length c, .slice B y.es.length d, .int .i64 y.rm, .int .i64 y.ck]
  nb : KNew kBl w0 b A y.bs.length c y.bs
  ne : KNew kEn w0 b B y.es.length d y.es
  sz : w0.heap.size ≤ wr.heap.size
  same : ∀ k, b ≤ k → k < w0.heap.size → wr.heap[k]? = w0.heap[k]?
  qb : q < b ∨ w0.heap.size ≤ q
  own : wr.ownsRow G 9 1 v gone.length (gone.map sv)
  ob : ∀ k, v.ownBlock = some k → k < b ∨ w0.heap.size ≤ k
  gz : G ≤ wr.heap.size
  qG : q < G
  bel : Below w.heap.size w wr
theorem EvI.bs {w w0 wr : World} {b q G c d : Nat} {A B : Option Addr} {y : Sto} {gone : List (List UInt8)} {v : Value} (h : EvI w w0 b q G A B c d y gone v wr) : KNew kBl wr b A y.bs.length c y.bs := h.nb.keep h.sz h.same
theorem EvI.es {w w0 wr : World} {b q G c d : Nat} {A B : Option Addr} {y : Sto} {gone : List (List UInt8)} {v : Value} (h : EvI w w0 b q G A B c d y gone v wr) : KNew kEn wr b B y.es.length d y.es := h.ne.keep h.sz h.same
theorem EvI.below {w w0 wr wx : World} {b q G c d : Nat} {A B : Option Addr} {y : Sto} {gone : List (List UInt8)} {v : Value} (h : EvI w w0 b q G A B c d y gone v wr) (hb : Below wr.heap.size wr wx) : EvI w w0 b q G A B c d y gone v wx :=
  ⟨h.var.below hb h.var.lt, h.nb, h.ne, Nat.le_trans h.sz hb.size, fun k h1 h2 => (hb.block k (Nat.lt_of_lt_of_le h2 h.sz)).trans (h.same k h1 h2), h.qb, own_below h.own hb, h.ob, Nat.le_trans h.gz hb.size, h.qG, below_step h.bel hb⟩
/-- behind an append to the texts -/
theorem EvI.snoc {w w0 w6 w7 : World} {b q G c d : Nat} {A B : Option Addr} {y : Sto} {gone : List (List UInt8)} {v v7 : Value} {K : List UInt8} (h : EvI w w0 b q G A B c d y gone v w6) (ha : App1 G 9 1 gone.length (gone.map sv) [.string (str K)] v w6 v7 w7) (hG : w.heap.size ≤ G) : EvI w w0 b q G A B c d y (gone ++ [K]) v7 w7 := by
  obtain ⟨h1, h2, h3, h4⟩ := ha
  refine ⟨(h2.block q h.qG).trans h.var, h.nb, h.ne, Nat.le_trans h.sz h3, fun k k1 k2 => ?_, h.qb, own_snoc h1, fun k hk => ?_, Nat.le_trans h.gz h3, h.qG, h.bel.trans (h2.mono hG)⟩
  · refine (h4 k (Nat.lt_of_lt_of_le k2 h.sz) (fun e => ?_)).2.trans (h.same k k1 k2)
    rcases h.ob k e with r | r <;> omega
  · rcases Nat.lt_or_ge k w6.heap.size with hlt | hge
    · rcases Classical.em (v.ownBlock = some k) with e | e
      · exact h.ob k e
      · exact absurd hk (h4 k hlt e).1
    · exact .inr (Nat.le_trans h.sz hge)
/-- behind a round: new rows -/
theorem EvI.next {w w0 w7 w8 w9 : World} {b q G c d c9 d9 : Nat} {A B A9 B9 : Option Addr} {y y' : Sto} {gone : List (List UInt8)} {v x0 x1 x2 x3 : Value} (h : EvI w w0 b q G A B c d y gone v w7) (hf : Far q w7 w8) (hv : Blk w9 q 25 [x0, x1, x2, x3]) (hb : Below w8.heap.size w8 w9) (hN : KNew kBl w9 w8.heap.size A9 y'.bs.length c9 y'.bs) (hM : KNew kEn w9 w8.heap.size B9 y'.es.length d9 y'.es) (hq : w.heap.size ≤ q) :
    EvI w w9 w8.heap.size q G A9 B9 c9 d9 y' gone v ((((w9.setCell ⟨q, 0, none⟩ (.slice A9 y'.bs.length c9)).setCell ⟨q, 1, none⟩ (.slice B9 y'.es.length d9)).setCell ⟨q, 2, none⟩ (.int .i64 y'.rm)).setCell ⟨q, 3, none⟩ (.int .i64 y'.ck)) := by
  have hq7 : q < w7.heap.size := Nat.lt_of_lt_of_le h.qG h.gz
  have hz := hf.b.size
  have hz2 := hb.size
  refine ⟨hv.put4s _ _ _ _, hN, hM, by simp, fun k k1 k2 => ?_, .inl (by omega), own_set4 (own_below (own_far h.own hf h.qG) hb) h.qG _ _ _ _, fun k hk => .inl (Nat.lt_of_lt_of_le (h.own.lt k hk).2 hz), by have := h.gz; simp; omega, h.qG, below4s (below_step (h.bel.trans (hf.below hq)) hb) hq _ _ _ _⟩
  have e1 : k ≠ q := by omega
  rw [Below.heap_setCell _ ⟨q, 3, none⟩ _ _ e1, Below.heap_setCell _ ⟨q, 2, none⟩ _ _ e1, Below.heap_setCell _ ⟨q, 1, none⟩ _ _ e1, Below.heap_setCell _ ⟨q, 0, none⟩ _ _ e1]
theorem uS_small10 {l : List Bl} (h : bsErr l = 0) : 0 ≤ uS l ∧ uS l ≤ 7200 := bs_us h
set_option maxRecDepth 100000 in
set_option maxHeartbeats 8000000 in
theorem evicted_any {A B : Option Addr} {n c m k : Nat} {s : Sto} {more : Int} {w : World} (h : StA w A B n c m k s) (_hm : (Lit.int .i64 more).wf = true) :
    Calls Tryz.prog 20 #[.agg #[.slice A n c, .slice B m k, .int .i64 s.rm, .int .i64 s.ck], .int .i64 more] w (GivesSX (sRun s more) w) := by
  obtain ⟨l, es, rm, ck⟩ := s
  obtain rfl : n = l.length := h.hr.len
  obtain rfl : m = es.length := h.he.len
  have hal := ((Below.refl w.heap.size w).alloc (Nat.le_refl _) (.cells #[.slice A l.length c, .slice B es.length k, .int .i64 rm, .int .i64 ck] 25)).alloc (by simp) (.cells #[.slice none 0 0, .slice none 0 0, .int .i64 0, .int .i64 0] 25)
  have hb1 := (Blk.new w 25 [.slice A l.length c, .slice B es.length k, .int .i64 rm, .int .i64 ck]).alloc (.cells #[.slice none 0 0, .slice none 0 0, .int .i64 0, .int .i64 0] 25)
  have hb2 := Blk.new (w.alloc (.cells #[.slice A l.length c, .slice B es.length k, .int .i64 rm, .int .i64 ck] 25)) 25 [.slice none 0 0, .slice none 0 0, .int .i64 0, .int .i64 0]
  have hsz : (w.alloc (.cells #[.slice A l.length c, .slice B es.length k, .int .i64 rm, .int .i64 ck] 25)).heap.size = w.heap.size + 1 := by simp
  rw [hsz] at hb2
  have h0 := h.below hal
  have HF := Lib.hid (storeFault_any A B l.length c es.length k l es rm ck _ h0.hr h0.he h0.hgl h0.hge)
  obtain ⟨a0, a1, a2, a3⟩ := blk4 hb1
  obtain ⟨X, hX⟩ : ∃ X, sRun ⟨l, es, rm, ck⟩ more = X := ⟨_, rfl⟩
  rw [hX]
  unfold sRun at hX
  clear hsz h0
  by_cases q : sErr ⟨l, es, rm, ck⟩ = 0
  · rw [if_neg (by simpa using q)] at hX
    rw [q] at HF
    have hok := sErr_zero.1 q
    have HL := Lib.hid (fun (W : World) (hb : Below w.heap.size w W) => roomLacks_any A l.length c l rm more W (h.hr.below hb))
    by_cases p : (rL l rm more).2 = 0
    · rw [if_neg (by simpa using p)] at hX
      obtain ⟨hm0, hm4⟩ := rL_range p
      obtain ⟨LK, hLK⟩ : ∃ LK, (rL l rm more).1 = LK := ⟨_, rfl⟩
      have hrl : rL l rm more = (LK, 0) := by rw [← hLK, ← p]
      rw [hrl] at HL
      change (if (rL l rm more).1 = 0 then _ else _) = _ at hX
      rw [hLK] at hX
      by_cases p0 : LK = 0
      · rw [if_pos p0] at hX
        subst p0
        have HX := Lib.hid hX
        have HCP := Lib.hid (fun (W : World) (hb : Below w.heap.size w W) => storeCopy_any A B l.length c es.length k l es rm ck W (h.hr.below hb) (h.he.below hb) h.hgl h.hge h.hz h.hz2)
        clear hX hok q p hLK hrl h
        go_enter Tryz.func20, Tryz.ntmps20
        go_wp2_with fail
        with_reducible refine HF.out.mono ?_
        rintro e w1 ⟨rfl, hc1⟩
        have k1 := hb1.below hc1 hb1.lt
        have k2 := hb2.below hc1 hb2.lt
        have hbB := below_step hal hc1
        clear HF hb1 hb2 hal hc1 a0 a1 a2 a3
        obtain ⟨a0, a1, a2, a3⟩ := blk4 k1
        go_wp2_with fail
        with_reducible refine (HL.out _ hbB).mono ?_
        rintro e w2 ⟨rfl, rfl⟩
        go_wp2_with fail
        with_reducible refine (HCP.out _ hbB).mono ?_
        rintro e w3 ⟨A3, c3, B3, d3, rfl, hN3, hM3, hc3⟩
        have hk2 := k2.lt
        have k3 := k2.below hc3 k2.lt
        have hbC := below_step hbB hc3
        clear k1 k2 hbB a0 a1 a2 a3
        obtain ⟨z0, z1, z2, z3⟩ := blk4 k3
        obtain ⟨y0, y1, y2, y3⟩ := blk4z k3
        go_wp2
        refine bodyPost_ret (results_cell_row3 rfl _ _ (w.heap.size + 1) 25 _ (0, 0) _ rfl (k3.put4s _ _ _ _) Tryz.underlying25 rfl store_size) rfl ?_
        rw [← HX.out]
        exact ⟨A3, c3, B3, d3, none, 0, rfl, (hN3.set4s hk2 _ _ _ _).rebase (by omega), (hM3.set4s hk2 _ _ _ _).rebase (by omega), Rd.nil _ _, fun _ => rfl, below4s hbC (by omega) _ _ _ _⟩
      · rw [if_neg p0] at hX
        have d0 : (LK == 0) = false := by rw [beq_eq_false_iff_ne]; exact p0
        have HX := Lib.hid hX
        have hT : (roots l es).length * 16 ≤ 140737488351232 := by have := roots_few hok; simp only at this; omega
        have HR := Lib.hid (fun (W : World) (hb : Below w.heap.size w W) => reached_any (h.below hb) hT)
        have HCO := Lib.hid (clean_ok hok)
        have HK := Lib.hid h.hK
        have hes : (sClean ⟨l, es, rm, ck⟩).es.length < es.length + 1 := Nat.lt_succ_self _
        have hes10 : (sClean ⟨l, es, rm, ck⟩).es.length ≤ 10 := (xsErr_zero.1 hok.xe).1
        have hyr : (sClean ⟨l, es, rm, ck⟩).rm = rm ∧ (sClean ⟨l, es, rm, ck⟩).ck = ck := ⟨rfl, rfl⟩
        have HEY := Lib.hid (And.intro hes (And.intro hes10 hyr))
        clear hes hes10 hyr
        generalize sClean ⟨l, es, rm, ck⟩ = Y at *
        generalize es.length + 1 = F at *
        clear hX hok q p hLK hrl h hT p0
        go_enter Tryz.func20, Tryz.ntmps20
        go_wp2_with fail
        with_reducible refine HF.out.mono ?_
        rintro e w1 ⟨rfl, hc1⟩
        have k1 := hb1.below hc1 hb1.lt
        have k2 := hb2.below hc1 hb2.lt
        have hbB := below_step hal hc1
        clear HF hb1 hb2 hal hc1 a0 a1 a2 a3
        obtain ⟨a0, a1, a2, a3⟩ := blk4 k1
        go_wp2_with fail
        with_reducible refine (HL.out _ hbB).mono ?_
        rintro e w2 ⟨rfl, rfl⟩
        go_wp2_with fail
        with_reducible refine (HR.out _ hbB).mono ?_
        rintro e w3 ⟨A3, c3, B3, d3, rfl, hN3, hM3, hc3⟩
        have hk2 := k2.lt
        have k3 := k2.below hc3 k2.lt
        have hbC := below_step hbB hc3
        have hal4 := (Below.refl w3.heap.size w3).alloc (Nat.le_refl _) (.cells #[.slice A3 Y.bs.length c3, .slice B3 Y.es.length d3, .int .i64 Y.rm, .int .i64 Y.ck] 25)
        have v4 := Blk.new w3 25 [.slice A3 Y.bs.length c3, .slice B3 Y.es.length d3, .int .i64 Y.rm, .int .i64 Y.ck]
        have k4 := k3.below hal4 k3.lt
        have hsz4 : (w3.alloc (.cells #[.slice A3 Y.bs.length c3, .slice B3 Y.es.length d3, .int .i64 Y.rm, .int .i64 Y.ck] 25)).heap.size = w3.heap.size + 1 := by simp
        have hw13 := hc3.size
        have hI : EvI w w3 w1.heap.size w3.heap.size (w3.heap.size + 1) A3 B3 c3 d3 Y [] (.slice none 0 0) (w3.alloc (.cells #[.slice A3 Y.bs.length c3, .slice B3 Y.es.length d3, .int .i64 Y.rm, .int .i64 Y.ck] 25)) :=
          ⟨v4, hN3, hM3, hal4.size, fun k _ hk => hal4.block k hk, .inr (Nat.le_refl _), World.ownsRow_nil _ _ _ _, fun k hk => (by cases hk), (by omega), Nat.lt_succ_self _, below_step hbC hal4⟩
        have hrr : Below (w.heap.size + 2) w3 (w3.alloc (.cells #[.slice A3 Y.bs.length c3, .slice B3 Y.es.length d3, .int .i64 Y.rm, .int .i64 Y.ck] 25)) := hal4.mono (by omega)
        clear HR HL k1 k2 k3 hbB hbC hal4 v4 a0 a1 a2 a3 hN3 hM3 hc3
        go_upto_region 10 with fail
        generalize hw4 : w3.alloc (.cells [Value.slice A3 Y.bs.length c3, .slice B3 Y.es.length d3, .int .i64 Y.rm, .int .i64 Y.ck].toArray 25) = w4 at *
        clear hw4 hrr
        have hq2 : w.heap.size + 2 ≤ w3.heap.size := by omega
        generalize w3.heap.size = Q at *
        go_wp2
        go_loopw [11] (fun v wr => ∃ (y : Sto) (gone : List (List UInt8)) (f : Nat) (w0 : World) (b : Nat) (A' B' : Option Addr) (c' d' : Nat), EvI w w0 b Q (Q + 1) A' B' c' d' y gone v wr ∧ Blk wr (w.heap.size + 1) 25 [.slice none 0 0, .slice none 0 0, .int .i64 0, .int .i64 0] ∧ w.heap.size + 2 ≤ b ∧
          Hid (sGo more f y gone = X ∧ y.ok ∧ y.es.length < f ∧ gone.length + y.es.length ≤ 10 ∧ y.rm = rm ∧ y.ck = ck)) (fun v _ => 11 - lenS v)
        case atStart => exact ⟨Y, [], F, w3, w1.heap.size, A3, B3, c3, d3, hI, k4, by omega, ⟨HX.out, HCO.out, HEY.out.1, by simpa using HEY.out.2.1, HEY.out.2.2.1, HEY.out.2.2.2⟩⟩
        case round =>
          clear hI k4 HX HCO HEY
          obtain ⟨⟨L, M, rm', ck'⟩, gone, f, w0, b, A', B', c', d', hE, kR, hbb, HH⟩ := hrel
          have hok := HH.out.2.1
          have h10 := HH.out.2.2.2.1
          have HRD := Lib.hid (go_round HH.out.1 HH.out.2.2.1)
          obtain ⟨hrm, hck⟩ := HH.out.2.2.2.2
          simp only at hrm hck
          subst hrm hck
          have hbs := hE.bs
          have hes := hE.es
          have hM10 : M.length ≤ 10 := by simp only at h10; omega
          clear h10
          obtain ⟨e0, e1, e2, e3⟩ := blk4 hE.var
          simp only at e0 e1 e2 e3 hbs hes
          have hus := uS_small10 hok.be
          simp only at hus
          have hw1 : wrap64 (uS L) = uS L := by unfold wrap64; omega
          have hw2 : IntKind.i64.wrap (uS L + more) = uS L + more := IntWalk.i64_in _ (by omega)
          have hw3 : wrap64 (uS L + more) = uS L + more := by unfold wrap64; omega
          have HU : Hid (∀ W : World, Below wr.heap.size wr W → Calls Tryz.prog 51 #[.slice A' L.length c'] W fun e w' => e = .returned (.int .i64 (uS L)) ∧ W = w') := fun W hb => by
            have := roomUsed_any A' L.length c' L W (hbs.rd.below hb)
            rwa [hw1] at this
          have HO := Lib.hid (fun (W : World) (hb : Below wr.heap.size wr W) => entryOldest_any B' M.length d' M W (hes.rd.below hb))
          obtain ⟨lk, hlk⟩ : ∃ lk, decide (rm' < uS L + more) = lk := ⟨_, rfl⟩
          have HLK := Lib.hid hlk
          generalize hU : uS L = U at *
          go_upto_region 11 with fail
          go_cut [11, 46] from 39 to 46 (fun s11 s46 wx => s11 = u11 ∧ s46 = .bool lk ∧ Below wr.heap.size wr wx)
          case first =>
            have b0 := (Below.refl wr.heap.size wr).drew
            have hS : ∀ W : World, Below wr.heap.size wr W → (W.cell? ⟨Q, 0, none⟩ = some (.slice A' L.length c') ∧ W.cell? ⟨Q, 2, none⟩ = some (.int .i64 rm')) := fun W hb => ⟨(blk4 (hE.var.below hb hE.var.lt)).1, (blk4 (hE.var.below hb hE.var.lt)).2.2.1⟩
            go_region_held_law (fun W => W.cell? ⟨Q, 0, none⟩ = some (.slice A' L.length c') ∧ W.cell? ⟨Q, 2, none⟩ = some (.int .i64 rm'))
              (first | with_reducible exact hS _ b0 | go_keep)
              (first | (go_at_call 51; (with_reducible refine (HU.out _ b0).mono ?_); rintro e v2 ⟨rfl, rfl⟩))
            all_goals
              go_wp2
              go_meet
              exact ⟨rfl, by rw [← HLK.out], b0⟩
          case rest =>
            obtain ⟨rfl, rfl, hbx⟩ := hcut
            rename World => w5
            have hE5 := hE.below hbx
            have kR5 := kR.below hbx kR.lt
            cases lk with
            | false =>
              have HF : Hid (X = (0, ⟨L, M, rm', ck'⟩, gone)) := HRD.out.1 (by simp only; rw [hw3]; exact of_decide_eq_false HLK.out)
              have hn := hE5.bs
              have hN := hE5.es
              obtain ⟨f0, f1, f2, f3⟩ := blk4 hE5.var
              simp only at f0 f1 f2 f3 hn hN
              obtain ⟨z0, z1, z2, z3⟩ := blk4 kR5
              obtain ⟨y0, y1, y2, y3⟩ := blk4z kR5
              obtain ⟨P, pc, rfl, hP, hPn, -⟩ := own_rdK hE5.own
              have hP2 := hP
              have hbel := hE5.bel
              have hqG := hE5.own
              have HP3 := Lib.hid (fun (x y z u : Value) => own_rdK (own_set4 hE5.own (g := w.heap.size + 1) (by omega) x y z u))
              clear hE hE5 kR hbs hes HU HO HRD HH e0 e1 e2 e3
              go_wp2
              refine bodyPost_ret (results_cell_row3 rfl _ _ (w.heap.size + 1) 25 _ (0, 0) _ rfl (kR5.put4s _ _ _ _) Tryz.underlying25 rfl store_size) rfl ?_
              rw [HF.out]
              obtain ⟨P', pc', hpe, hP', hPn', -⟩ := HP3.out _ _ _ _
              injection hpe with hpe1 hpe2 hpe3
              subst hpe1; subst hpe3
              exact ⟨_, _, _, _, _, _, rfl, (hn.set4s (by omega) _ _ _ _).rebase (by omega), (hN.set4s (by omega) _ _ _ _).rebase (by omega), hP', hPn', below4s hbel (by omega) _ _ _ _⟩
            | true =>
              rcases HRD.out.2 (by simp only; rw [hw3]; exact of_decide_eq_true HLK.out) with ⟨hxo, hXR⟩ | ⟨i, hi, hxo, hXR⟩
              · simp only at hxo
                have HF := Lib.hid hXR
                have HO5 := HO.out w5 hbx
                rw [hxo] at HO5
                have HO6 := Lib.hid HO5
                obtain ⟨f0, f1, f2, f3⟩ := blk4 hE5.var
                simp only at f0 f1 f2 f3
                clear HRD HLK HO HU HO5 hxo hXR hE kR hbs hes HH e0 e1 e2 e3
                go_wp2_with fail
                with_reducible refine HO6.out.mono ?_
                rintro e w6 ⟨rfl, hb6⟩
                have kR6 := kR5.below hb6 kR5.lt
                have hbel := below_step hE5.bel hb6
                obtain ⟨z0, z1, z2, z3⟩ := blk4 kR6
                obtain ⟨y0, y1, y2, y3⟩ := blk4z kR6
                clear kR5 hE5
                go_wp2
                refine bodyPost_ret (results_cell_row3 rfl _ _ (w.heap.size + 1) 25 _ (0, 0) _ rfl (kR6.put4s _ _ _ _) Tryz.underlying25 rfl store_size) rfl ?_
                rw [HF.out]
                exact givesSX_no rfl (below4s hbel (by omega) _ _ _ _)
              · simp only at hxo hi hXR
                have HXR := Lib.hid hXR
                have HO5 := HO.out w5 hbx
                rw [hxo] at HO5
                have HO6 := Lib.hid HO5
                obtain ⟨f0, f1, f2, f3⟩ := blk4 hE5.var
                simp only at f0 f1 f2 f3
                clear HRD HLK HO HU HO5 hxo hXR kR hbs hes e0 e1 e2 e3
                go_wp2_with fail
                with_reducible refine HO6.out.mono ?_
                rintro e w6 ⟨rfl, hb6⟩
                have kR6 := kR5.below hb6 kR5.lt
                have hE6 := hE5.below hb6
                obtain ⟨bb, off, D, dn, dc, rfl, hc0, -, -, -, -, -⟩ := hE6.es.rd.entry hi
                have hcapM := hE6.es.rd.cap
                have hGM : ∀ p ∈ M, p.good := fun p hp => fine_good_en ((xsErr_zero.1 hok.xe).2.1 p hp)
                have h10 := HH.out.2.2.2.1
                simp only at h10 hcapM
                have hown6 := hE6.own
                have hgz6 := hE6.gz
                have hi' : (i : Int) < (M.length : Int) := by omega
                obtain ⟨KY, hKY⟩ : ∃ KY, M[i].ky = KY := ⟨_, rfl⟩
                rw [hKY] at hc0 HXR
                obtain ⟨i0, hi0, hz0, hz1, hz2⟩ := info_parts str_info
                obtain ⟨j0, hj0, hw0, hw1', hw2'⟩ := info_parts entry_info
                obtain ⟨f0, f1, f2, f3⟩ := blk4 hE6.var
                simp only at f0 f1 f2 f3 hc0
                have hls := less_ok hok i
                have HLS := Lib.hid hls
                clear HO6 kR5 hE5 hKY
                go_upto_region 16 with (at_builtin; refine wpList_append1' rfl (.tmp 56) (.tmp 63) _ rfl Tryz.underlying26 hi0 hz0 hz1 hz2 rfl (by omega) _ _ _ rfl hown6 [.string (str KY)] rfl (by simp [Value.oneCell']) (by first | rfl | simp [Act.eval]) (by omega) (by unfold maxLen; omega) hgz6 ?_; rintro v7 w7 hA7)
                have hE7 := hE6.snoc hA7 (by omega)
                have hQ7 : Q < w7.heap.size := hE7.var.lt
                have kR7 : Blk w7 (w.heap.size + 1) 25 _ := (hA7.2.1.block (w.heap.size + 1) (by omega)).trans kR6
                clear hE6 kR6 hA7 hown6 hgz6 f0 f1 f2 f3 hc0
                obtain ⟨ME, hME⟩ : ∃ ME, M.eraseIdx i = ME := ⟨_, rfl⟩
                go_cut [11] from 65 to 77 (fun s11 wx => s11 = v7 ∧ Far Q w7 wx ∧ ∃ A8 d8, KNew kEn wx w7.heap.size A8 ME.length d8 ME ∧ Blk wx Q 25 [.slice A' L.length c', .slice A8 ME.length d8, .int .i64 rm', .int .i64 ck'])
                case first =>
                  obtain ⟨L1, hE1⟩ : ∃ L1, M.take i = L1 := ⟨_, rfl⟩
                  obtain ⟨L2, hE2⟩ : ∃ L2, M.drop (i + 1) = L2 := ⟨_, rfl⟩
                  have HLE : Hid (L1 ++ L2 = ME) := by show _ = _; rw [← hME, List.eraseIdx_eq_take_drop_succ, hE1, hE2]
                  have hl1 : L1.length ≤ 10 := by rw [← hE1, List.length_take]; omega
                  have hl2 : L2.length ≤ 10 := by rw [← hE2, List.length_drop]; omega
                  have HG1 : Hid (∀ p ∈ L1, p.good) := by rw [← hE1]; exact fun p hp => hGM p (List.mem_of_mem_take hp)
                  have HG2 : Hid (∀ p ∈ L2, p.good) := by rw [← hE2]; exact fun p hp => hGM p (List.mem_of_mem_drop hp)
                  have hrM : KRd kEn w7 (some ⟨bb, off, none⟩) M.length d' M := hE7.es.rd
                  have hr54 := hrM.take i (by omega)
                  rw [hE1] at hr54
                  have hsz54 : i * 56 ≤ 140737488351232 := by omega
                  have hK1 : (i : Int) + 1 ≤ (M.length : Int) := by omega
                  have hKc : (i : Int) ≤ (d' : Int) := by omega
                  have hK1c : (i : Int) + 1 ≤ (d' : Int) := by omega
                  have hwr : IntKind.i64.wrap ((i : Int) + 1) = (i : Int) + 1 := IntWalk.i64_in _ (by omega)
                  have htn : ((i : Int) + 1).toNat = i + 1 := by omega
                  have hK0 : (0 : Int) ≤ (i : Int) + 1 := by omega
                  have hbw := (Below.refl w7.heap.size w7).drew
                  have hszw : w7.heap.size ≤ w7.drew.heap.size := Nat.le_refl _
                  have qD := hE7.var.drew
                  obtain ⟨l0, l1, l2, l3⟩ := blk4 qD
                  simp only at l0 l1 l2 l3 qD
                  have hr54' := hr54.below hbw
                  by_cases hcK : d' = i + 1
                  · subst hcK
                    have hr65' : KRd kEn w7.drew (some ⟨bb, off, none⟩) 0 0 L2 := by
                      rw [← hE2, List.drop_of_length_le (by omega)]
                      exact KRd.none0 _ _ _ (by omega)
                    have hKK : (i : Int) ≤ (i : Int) + 1 := by omega
                    have hsz65 : 0 * 56 ≤ 140737488351232 := by omega
                    clear hr54 hrM hE1 hE2 hE7 kR7
                    go_region_law
                      (first
                          | (refine step_appendM (by rfl) (.tmp 69) (.tmp 75) _ (by rfl) Tryz.underlying23 hj0 hw0 hw1' hw2' rfl (by omega) v3 _ _ (by rfl) hrow5 hr6 hA6 (kEn.all_one' hs6) (by first | rfl | simp [Act.eval]) (by omega) (by unfold maxLen; omega) hszD ?_; rintro v9 w10 ⟨hown9, hb9, hs9, hfar9⟩; have oE : Blk w10 Q 25 _ := ((hfar9.out Q qE.lt (fun q => by have := (hrow5.lt _ q).1; omega)).2).trans qE; obtain ⟨t0, t1, t2, t3⟩ := blk4 oE; obtain ⟨y0, y1, y2, y3⟩ := blk4z oE; obtain ⟨A9, c9, rfl, hN9⟩ := catsE_end hm5 hd5 hm6 hd6 hown9 hs9 hfar9; rw [List.length_append] at hN9)
                          | (go_simp; go_at_call 53; (with_reducible refine (entriesCopy_any _ _ _ _ _ hr54' HG1.out hsz54).mono ?_); rintro e w3 ⟨v3, rfl, hown3, hb3⟩; have hr65b := hr65'.below hb3; have qC := qD.below hb3 qD.lt; obtain ⟨m0, m1, m2, m3⟩ := blk4 qC)
                          | (go_simp; go_at_call 53; (with_reducible refine (entriesCopy_any _ _ _ _ _ hr65b HG2.out hsz65).mono ?_); rintro e w6 ⟨v6, rfl, hown6, hb6⟩; obtain ⟨hs5, hs6, A6, c6, rfl, hm5, hrow5, hd5, hm6, hr6, hA6, hd6⟩ := catsE_a hszw hown3 hb3 hown6 hb6; have qE := qC.below hb6 qC.lt; have hbD := below_step (below_step hbw hb3) hb6; have hszD := hbD.size)
                          | (go_simp; go_at_call 53; (with_reducible refine (entriesCopy_any _ _ _ _ _ hr65' HG2.out hsz65).mono ?_); rintro e w3 ⟨v6, rfl, hown3, hb3⟩; have hr54b := hr54'.below hb3; have qC := qD.below hb3 qD.lt; obtain ⟨m0, m1, m2, m3⟩ := blk4 qC)
                          | (go_simp; go_at_call 53; (with_reducible refine (entriesCopy_any _ _ _ _ _ hr54b HG1.out hsz54).mono ?_); rintro e w6 ⟨v3, rfl, hown6, hb6⟩; obtain ⟨hs5, hs6, A6, c6, rfl, hm5, hrow5, hd5, hm6, hr6, hA6, hd6⟩ := catsE_b hszw hown3 hb3 hown6 hb6; have qE := qC.below hb6 qC.lt; have hbD := below_step (below_step hbw hb3) hb6; have hszD := hbD.size))
                    all_goals
                      have hkeep := ((Far.of (hbD.trans hb9) hQ7).cell 1 (.slice A9 (L1.length + L2.length) c9))
                      have hput := oE.put 1 (.slice A9 (L1.length + L2.length) c9)
                      simp only [List.set_cons_succ, List.set_cons_zero] at hput
                      have hNs := hN9.set hQ7 (i := 1) (.slice A9 (L1.length + L2.length) c9)
                      go_wp2
                      go_meet
                      exact ⟨rfl, hkeep, A9, c9, by rw [← HLE.out, List.length_append]; exact hNs, by rw [← HLE.out, List.length_append]; exact hput⟩
                  · have hr65' : KRd kEn w7.drew (some ⟨bb, off + (i + 1) * 4, none⟩) (M.length - (i + 1)) (d' - (i + 1)) L2 := by
                      rw [← hE2]; exact (hrM.drop (i + 1) (by omega)).below hbw
                    have hsz65 : (M.length - (i + 1)) * 56 ≤ 140737488351232 := by omega
                    clear hr54 hrM hE1 hE2 hE7 kR7
                    go_region_law
                      (first
                          | (refine step_appendM (by rfl) (.tmp 69) (.tmp 75) _ (by rfl) Tryz.underlying23 hj0 hw0 hw1' hw2' rfl (by omega) v3 _ _ (by rfl) hrow5 hr6 hA6 (kEn.all_one' hs6) (by first | rfl | simp [Act.eval]) (by omega) (by unfold maxLen; omega) hszD ?_; rintro v9 w10 ⟨hown9, hb9, hs9, hfar9⟩; have oE : Blk w10 Q 25 _ := ((hfar9.out Q qE.lt (fun q => by have := (hrow5.lt _ q).1; omega)).2).trans qE; obtain ⟨t0, t1, t2, t3⟩ := blk4 oE; obtain ⟨y0, y1, y2, y3⟩ := blk4z oE; obtain ⟨A9, c9, rfl, hN9⟩ := catsE_end hm5 hd5 hm6 hd6 hown9 hs9 hfar9; rw [List.length_append] at hN9)
                          | (go_simp; go_at_call 53; (with_reducible refine (entriesCopy_any _ _ _ _ _ hr54' HG1.out hsz54).mono ?_); rintro e w3 ⟨v3, rfl, hown3, hb3⟩; have hr65b := hr65'.below hb3; have qC := qD.below hb3 qD.lt; obtain ⟨m0, m1, m2, m3⟩ := blk4 qC)
                          | (go_simp; go_at_call 53; (with_reducible refine (entriesCopy_any _ _ _ _ _ hr65b HG2.out hsz65).mono ?_); rintro e w6 ⟨v6, rfl, hown6, hb6⟩; obtain ⟨hs5, hs6, A6, c6, rfl, hm5, hrow5, hd5, hm6, hr6, hA6, hd6⟩ := catsE_a hszw hown3 hb3 hown6 hb6; have qE := qC.below hb6 qC.lt; have hbD := below_step (below_step hbw hb3) hb6; have hszD := hbD.size)
                          | (go_simp; go_at_call 53; (with_reducible refine (entriesCopy_any _ _ _ _ _ hr65' HG2.out hsz65).mono ?_); rintro e w3 ⟨v6, rfl, hown3, hb3⟩; have hr54b := hr54'.below hb3; have qC := qD.below hb3 qD.lt; obtain ⟨m0, m1, m2, m3⟩ := blk4 qC)
                          | (go_simp; go_at_call 53; (with_reducible refine (entriesCopy_any _ _ _ _ _ hr54b HG1.out hsz54).mono ?_); rintro e w6 ⟨v3, rfl, hown6, hb6⟩; obtain ⟨hs5, hs6, A6, c6, rfl, hm5, hrow5, hd5, hm6, hr6, hA6, hd6⟩ := catsE_b hszw hown3 hb3 hown6 hb6; have qE := qC.below hb6 qC.lt; have hbD := below_step (below_step hbw hb3) hb6; have hszD := hbD.size))
                    all_goals
                      have hkeep := ((Far.of (hbD.trans hb9) hQ7).cell 1 (.slice A9 (L1.length + L2.length) c9))
                      have hput := oE.put 1 (.slice A9 (L1.length + L2.length) c9)
                      simp only [List.set_cons_succ, List.set_cons_zero] at hput
                      have hNs := hN9.set hQ7 (i := 1) (.slice A9 (L1.length + L2.length) c9)
                      go_wp2
                      go_meet
                      exact ⟨rfl, hkeep, A9, c9, by rw [← HLE.out, List.length_append]; exact hNs, by rw [← HLE.out, List.length_append]; exact hput⟩
                case rest =>
                  obtain ⟨rfl, hf8, A8, d8, hN8, hv8⟩ := hcut
                  rename World => w8
                  have hbs8 : KNew kBl w8 b A' L.length c' L := hE7.nb.keep (Nat.le_trans hE7.sz hf8.b.size) (fun k k1 k2 => by
                    have hq : k ≠ Q := by rcases hE7.qb with r | r <;> omega
                    exact (hf8.block k (Nat.lt_of_lt_of_le k2 hE7.sz) hq).trans (hE7.same k k1 k2))
                  have hbel8 : Below w.heap.size w w8 := hE7.bel.trans (hf8.below (by omega))
                  have kR8 := hf8.blk kR7 (by omega)
                  have hls' : (⟨L, ME, rm', ck'⟩ : Sto).ok := by rw [← hME]; exact HLS.out
                  have hT : (roots L ME).length * 16 ≤ 140737488351232 := by have := roots_few hls'; simp only at this; omega
                  have HR9 := Lib.hid (reached_any (sta_of (HK.out.below hbel8) hbs8.rd hN8.rd hbs8.nilCap hN8.nilCap hls') hT)
                  obtain ⟨f0, f1, f2, f3⟩ := blk4 hv8
                  have hz8 := hf8.b.size
                  have HY : Hid (sClean (sLess ⟨L, M, rm', ck'⟩ i) = sClean ⟨L, ME, rm', ck'⟩) := by show _ = _; rw [← hME]; rfl
                  have HYO : Hid ((sClean ⟨L, ME, rm', ck'⟩).ok ∧ (sClean ⟨L, ME, rm', ck'⟩).es.length + 1 = M.length ∧ (sClean ⟨L, ME, rm', ck'⟩).rm = rm' ∧ (sClean ⟨L, ME, rm', ck'⟩).ck = ck') := by
                    refine ⟨clean_ok hls', ?_, rfl, rfl⟩
                    have := less_len (y := ⟨L, M, rm', ck'⟩) hi
                    rw [HY.out] at this
                    exact this
                  rw [HY.out] at HXR
                  generalize sClean ⟨L, ME, rm', ck'⟩ = Y' at *
                  clear hls' hT HLS hls hok HY hME
                  simp only at HR9
                  go_wp2_with fail
                  with_reducible refine HR9.out.mono ?_
                  rintro e w9 ⟨A9, c9, B9, d9, rfl, hN9, hM9, hc9⟩
                  have hv9 := hv8.below hc9 hv8.lt
                  have kR9 := kR8.below hc9 kR8.lt
                  obtain ⟨z0, z1, z2, z3⟩ := blk4 hv9
                  obtain ⟨y0, y1, y2, y3⟩ := blk4z hv9
                  have hEN := hE7.next hf8 hv9 hc9 hN9 hM9 (by omega)
                  have kRN := kR9.far4s (q := Q) (by omega) (.slice A9 Y'.bs.length c9) (.slice B9 Y'.es.length d9) (.int .i64 Y'.rm) (.int .i64 Y'.ck)
                  obtain ⟨P7, p7, hv7⟩ := own_slice hE7.own
                  rw [List.length_append, List.length_singleton] at hv7
                  subst hv7
                  obtain ⟨P6, p6, rfl⟩ := own_slice hE.own
                  go_wp2
                  go_roundw
                  case rel => exact ⟨Y', gone ++ [KY], f - 1, w9, w8.heap.size, A9, B9, c9, d9, hEN, kRN, by omega, ⟨HXR.out, HYO.out.1, by have h1 := HYO.out.2.1; have h2 := HH.out.2.2.1; change M.length < f at h2; omega, by have := HYO.out.2.1; rw [List.length_append]; simp; omega, HYO.out.2.2.1, HYO.out.2.2.2⟩⟩
                  case measure => have := HYO.out.2.1; simp [lenS] <;> omega
    · rw [if_pos (by simpa using p)] at hX
      have HX := Lib.hid hX
      obtain ⟨⟨x1, E⟩, hrl⟩ : ∃ r, rL l rm more = r := ⟨_, rfl⟩
      rw [hrl] at HL p
      have HX2 : Hid ((E, sNil, []) = X) := by show _ = _; rw [← hX]; show _ = ((rL l rm more).2, sNil, _); rw [hrl]
      simp only at HL p
      have d1 : (E != 0) = true := by rw [bne_iff_ne]; exact p
      clear hX HX hok q p hrl h
      go_enter Tryz.func20, Tryz.ntmps20
      go_wp2_with fail
      with_reducible refine HF.out.mono ?_
      rintro e w1 ⟨rfl, hc1⟩
      have k1 := hb1.below hc1 hb1.lt
      have k2 := hb2.below hc1 hb2.lt
      have hbB := below_step hal hc1
      clear HF hb1 hb2 hal hc1 a0 a1 a2 a3
      obtain ⟨a0, a1, a2, a3⟩ := blk4 k1
      go_wp2_with fail
      with_reducible refine (HL.out _ hbB).mono ?_
      rintro e w2 ⟨rfl, rfl⟩
      have hk2 := k2.lt
      obtain ⟨z0, z1, z2, z3⟩ := blk4 k2
      obtain ⟨y0, y1, y2, y3⟩ := blk4z k2
      go_wp2
      refine bodyPost_ret (results_cell_row3 rfl _ _ (w.heap.size + 1) 25 _ (0, 0) _ rfl (k2.put4s _ _ _ _) Tryz.underlying25 rfl store_size) rfl ?_
      rw [← HX2.out]
      exact givesSX_no rfl (below4s hbB (by omega) _ _ _ _)
  · rw [if_pos (by simpa using q)] at hX
    have HX := Lib.hid hX
    generalize sErr ⟨l, es, rm, ck⟩ = E at *
    have d1 : (E != 0) = true := by rw [bne_iff_ne]; exact q
    clear hX h q
    go_enter Tryz.func20, Tryz.ntmps20
    go_wp2_with fail
    with_reducible refine HF.out.mono ?_
    rintro e w1 ⟨rfl, hc1⟩
    have k2 := hb2.below hc1 hb2.lt
    have hbB := below_step hal hc1
    clear HF hb1 hb2 hal hc1 a0 a1 a2 a3
    have hk2 := k2.lt
    obtain ⟨z0, z1, z2, z3⟩ := blk4 k2
    obtain ⟨y0, y1, y2, y3⟩ := blk4z k2
    go_wp2
    refine bodyPost_ret (results_cell_row3 rfl _ _ (w.heap.size + 1) 25 _ (0, 0) _ rfl (k2.put4s _ _ _ _) Tryz.underlying25 rfl store_size) rfl ?_
    rw [← HX.out]
    exact givesSX_no rfl (below4s hbB (by omega) _ _ _ _)
end Go.Proofs.YtekbgopdeancpaaGreatDoor
