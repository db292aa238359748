/- slices.DeleteFunc over entries in a row that is known whole, whatever the closure. -/
import Derived.Test.YtekbgopdeancpaaGreatDoorGS
import Derived.Test.YtekbgopdeancpaaGreatDoorGO
import Derived.Test.YtekbgopdeancpaaGreatDoorQDfq
import Derived.IntWalk
import Derived.Deep.CutBlock
import Derived.Deep.CutRange
import Derived.Shelf.SlSorted.Search
namespace Go.Proofs.YtekbgopdeancpaaGreatDoor
open Go.RowKit Go.Shelf
theorem cells4E {w : World} {base g k : Nat} {t : TypeId} {cur : List (En × Hd)} (h : KE w base g t cur) (hk : k < cur.length) :
    (w.cell? ⟨g, k * 4, none⟩ = some (.string (str cur[k].1.ky)) ∧ w.cell? ⟨g, k * 4 + 1, none⟩ = some (.slice cur[k].2.A cur[k].2.n cur[k].2.c) ∧ w.cell? ⟨g, k * 4 + 2, none⟩ = some (.int .i64 cur[k].1.pn) ∧ w.cell? ⟨g, k * 4 + 3, none⟩ = some (.int .i64 cur[k].1.st)) ∧
    w.frozen? ⟨g, k * 4, none⟩ = false ∧ w.frozen? ⟨g, k * 4 + 1, none⟩ = false ∧ w.frozen? ⟨g, k * 4 + 2, none⟩ = false ∧ w.frozen? ⟨g, k * 4 + 3, none⟩ = false := by
  have q0 := kEn.all_at cur k hk 0 (by decide)
  have q1 := kEn.all_at cur k hk 1 (by decide)
  have q2 := kEn.all_at cur k hk 2 (by decide)
  have q3 := kEn.all_at cur k hk 3 (by decide)
  exact ⟨⟨(h.blk.cell (k * 4)).trans q0, (h.blk.cell (k * 4 + 1)).trans q1, (h.blk.cell (k * 4 + 2)).trans q2, (h.blk.cell (k * 4 + 3)).trans q3⟩, h.blk.frozen _, h.blk.frozen _, h.blk.frozen _, h.blk.frozen _⟩
/-- what the call leaves -/
def KeptE (base g C : Nat) (hs zs : List (En × Hd)) (p : En → Bool) (w : World) (e : Ending) (w' : World) : Prop :=
  ∃ (hs' zs' : List (En × Hd)) (m : Nat), e = .returned (.slice (some ⟨g, 0, none⟩) m C) ∧ hs'.length = m ∧ hs'.map Prod.fst = (hs.map Prod.fst).filter (fun b => !p b) ∧ (hs' ++ zs').length = C ∧ (∀ x ∈ hs' ++ zs', x ∈ hs ++ zs ∨ x = ze) ∧ KE w' base g 54 (hs' ++ zs') ∧ Far g w w'
set_option maxRecDepth 100000 in
set_option maxHeartbeats 4000000 in
theorem deleteE_any (w : World) (base g : Nat) (hs zs : List (En × Hd)) (n C : Nat) (hn : hs.length = n) (hC : (hs ++ zs).length = C) (hC24 : C ≤ 24) (h : KE w base g 54 (hs ++ zs)) (p : En → Bool) (f : Nat) (lb : Array Value)
    (eg : ∀ args w, (callFunc f args).run Tryz.prog w = .ok (.enter f args) w)
    (hp : ∀ (W : World) (x : En × Hd), Far g w W → Calls Tryz.prog f (#[.agg (kEn.cells x.1 x.2).toArray] ++ lb) W fun e w' => e = .returned (.bool (p x.1)) ∧ Below W.heap.size W w') :
    Calls Tryz.prog 35 #[.slice (some ⟨g, 0, none⟩) n C, .func (.func f) #[] lb] w (KeptE base g C hs zs p w) := by
  subst hn
  obtain ⟨j0, hj0, hw0, hw1, hw2⟩ := info_parts entry_info
  have hgl := h.blk.lt
  have hnC : hs.length ≤ C := by rw [List.length_append] at hC; omega
  have HI := Lib.hid (indexE_any _ _ _ _ w (h.rdPart rfl hC (by unfold maxLen; omega)) p f lb eg (fun W x hb => ((hp W x (Far.of hb hgl)).mono fun e w' ⟨h1, h2⟩ => ⟨h1, below_step hb h2⟩)))
  have HP := Lib.hid hp
  have HKB := Lib.hid h
  clear hp
  by_cases hit : (hs.map Prod.fst).findIdx p < hs.length
  · obtain ⟨K, hK⟩ : ∃ K, (hs.map Prod.fst).findIdx p = K := ⟨_, rfl⟩
    rw [hK] at hit
    have hplc : plc (hs.map Prod.fst) p = (K : Int) := by unfold plc; rw [List.length_map, hK, if_pos hit]
    rw [hplc] at HI
    have HST := Lib.hid (DelJ.start (zs := zs) hK hit)
    have hne : ((K : Int) == -1) = false := by rw [beq_eq_false_iff_ne]; omega
    have hz : IntKind.i64.wrap ((K : Int) + 1) = (K : Int) + 1 := IntWalk.i64_in _ (by omega)
    clear hK hplc h
    go_enter Tryz.func35, Tryz.ntmps35
    go_wp2_with fail
    with_reducible refine HI.out.mono ?_
    rintro e w1 ⟨rfl, hb1⟩
    have HK1 := Lib.hid (HKB.out.below hb1)
    have HF1 := Lib.hid (Far.of hb1 hgl)
    clear hb1 HKB HI
    go_wp2
    go_loopw [5, 6] (fun s5 s6 wr => ∃ (i j : Nat) (cur : List (En × Hd)), s5 = .int .i64 (i : Int) ∧ s6 = .int .i64 (j : Int) ∧ DelJ hs zs p i j cur ∧ KE wr base g 54 cur ∧ Far g w wr) (fun _ s6 _ => hs.length - (intOf s6).toNat)
    case atStart => exact ⟨K, K + 1, _, rfl, by go_num, HST.out, HK1.out, HF1.out⟩
    case round =>
      obtain ⟨i, j, cur, rfl, rfl, hD, hk, hf⟩ := hrel
      have hij := hD.lt
      by_cases hlt : j < hs.length
      · obtain ⟨hcj, hej⟩ := hD.at hlt
        have hci : i < cur.length := by omega
        obtain ⟨⟨c0, c1, c2, c3⟩, -⟩ := cells4E hk hcj
        rw [hej] at c0 c1 c2 c3
        have HKEEP := Lib.hid (fun q => hD.keep hlt q)
        have HSKIP := Lib.hid (fun q => hD.skip hlt q)
        have hx := hk.deep cur[j] (List.getElem_mem hcj)
        rw [hej] at hx
        have hjn : (j : Int) < (hs.length : Int) := by omega
        have hjC : (j : Int) < (C : Int) := by omega
        have hiC : (i : Int) < (C : Int) := by omega
        have hin : (i : Int) < (hs.length : Int) := by omega
        generalize hs[j] = x at *
        have hal := (Below.refl wr.heap.size wr).alloc (Nat.le_refl _) (.cells #[.string (str x.1.ky), .slice x.2.A x.2.n x.2.c, .int .i64 x.1.pn, .int .i64 x.1.st] 54)
        have hbk := Blk.new wr 54 [.string (str x.1.ky), .slice x.2.A x.2.n x.2.c, .int .i64 x.1.pn, .int .i64 x.1.st]
        have hgw := hk.blk.lt
        have hk2 := hk.below hal
        have hf2 := hf.trans (Far.of hal hgw)
        have hdx := kEn.keep (w' := wr.alloc (.cells #[.string (str x.1.ky), .slice x.2.A x.2.n x.2.c, .int .i64 x.1.pn, .int .i64 x.1.st] 54)) hx.1 fun k _ hk => hal.block k hk
        have hxb := hx.2
        have hne2 : wr.heap.size ≠ g := by omega
        go_upto_region 8 with fail
        generalize hw4 : wr.alloc (.cells [Value.string (str x.1.ky), .slice x.2.A x.2.n x.2.c, .int .i64 x.1.pn, .int .i64 x.1.st].toArray 54) = w4 at *
        clear hw4 c0 c1 c2 c3 hx hal hk hf
        have hz4 : wr.heap.size < w4.heap.size := hbk.lt
        obtain ⟨a0, a1, a2, a3⟩ : w4.cell? ⟨wr.heap.size, 0, none⟩ = some (.string (str x.1.ky)) ∧ w4.cell? ⟨wr.heap.size, 1, none⟩ = some (.slice x.2.A x.2.n x.2.c) ∧ w4.cell? ⟨wr.heap.size, 2, none⟩ = some (.int .i64 x.1.pn) ∧ w4.cell? ⟨wr.heap.size, 3, none⟩ = some (.int .i64 x.1.st) := ⟨hbk.cell 0, hbk.cell 1, hbk.cell 2, hbk.cell 3⟩
        have hc : Calls Tryz.prog f (#[.agg #[.string (str x.1.ky), .slice x.2.A x.2.n x.2.c, .int .i64 x.1.pn, .int .i64 x.1.st]] ++ lb) w4 fun e w' => e = .returned (.bool (p x.1)) ∧ Below w4.heap.size w4 w' := HP.out w4 x hf2
        cases hq : p x.1 with
        | true =>
          rw [hq] at hc
          have HD2 := Lib.hid (HSKIP.out hq)
          clear HKEEP HSKIP hq
          go_wp2_with (go_at_fn f; refine hc.mono ?_; rintro e w5 ⟨rfl, hb5⟩)
          go_roundw
          case rel => exact ⟨i, j + 1, cur, rfl, by go_num, HD2.out, hk2.below hb5, hf2.trans (Far.of hb5 hk2.blk.lt)⟩
          case measure => simp [intOf] <;> omega
        | false =>
          rw [hq] at hc
          have HD2 := Lib.hid (HKEEP.out hq)
          clear HKEEP HSKIP hq
          go_upto_region 8 with fail
          go_cut [5, 6, 7, 29] from 26 to 29 (fun s5 s6 s7 s29 wx => s5 = .int .i64 (i : Int) ∧ s6 = .int .i64 (j : Int) ∧ s7 = .pointer (some ⟨wr.heap.size, 0, none⟩) ∧ s29 = .bool true ∧ Below w4.heap.size w4 wx)
          case first =>
            go_wp2_with (go_at_fn f; refine hc.mono ?_; rintro e w5 ⟨rfl, hb5⟩)
            go_meet
            exact ⟨rfl, rfl, rfl, rfl, hb5⟩
          case rest =>
            obtain ⟨rfl, rfl, rfl, rfl, hb5⟩ := hcut
            rename World => w5
            have hk5 := hk2.below hb5
            have hbk5 := hbk.below hb5 hbk.lt
            have hf5 := hf2.trans (Far.of hb5 hk2.blk.lt)
            have hdx5 := kEn.keep (w' := w5) hdx fun k _ hk => hb5.block k hk
            obtain ⟨⟨e0, e1, e2, e3⟩, z0, z1, z2, z3⟩ := cells4E hk5 hci
            obtain ⟨b0, b1, b2, b3⟩ : w5.cell? ⟨wr.heap.size, 0, none⟩ = some (.string (str x.1.ky)) ∧ w5.cell? ⟨wr.heap.size, 1, none⟩ = some (.slice x.2.A x.2.n x.2.c) ∧ w5.cell? ⟨wr.heap.size, 2, none⟩ = some (.int .i64 x.1.pn) ∧ w5.cell? ⟨wr.heap.size, 3, none⟩ = some (.int .i64 x.1.st) := ⟨hbk5.cell 0, hbk5.cell 1, hbk5.cell 2, hbk5.cell 3⟩
            have hz5 := hb5.size
            have HK6 := Lib.hid (hk5.put i x hci ⟨hdx5, fun k hk => ⟨(hxb k hk).1, by have := (hxb k hk).2.1; omega, (hxb k hk).2.2⟩⟩)
            have HF6 := Lib.hid ((((hf5.cell (i * 4) (.string (str x.1.ky))).cell (i * 4 + 1) (.slice x.2.A x.2.n x.2.c)).cell (i * 4 + 2) (.int .i64 x.1.pn)).cell (i * 4 + 3) (.int .i64 x.1.st))
            generalize cur[i] = y at e0 e1 e2 e3
            clear hk5 hbk5 hf5 hdx5 hk2 hf2 hdx hbk a0 a1 a2 a3 hc hb5 hxb
            go_wp2
            go_roundw
            case rel => exact ⟨i + 1, j + 1, _, by go_num, by go_num, HD2.out, HK6.out, HF6.out⟩
            case measure => simp [intOf] <;> omega
      · have hjn : j = hs.length := by have := hD.le; omega
        subst hjn
        obtain ⟨d1, d2, d3, d4, d5⟩ := hD.done
        have hcl := hD.len
        have hd2 : decide ((hs.length : Int) < (hs.length : Int)) = false := by simp
        have hi1 : (i : Int) ≤ (hs.length : Int) := by omega
        have hi2 : (i : Int) ≤ (C : Int) := by omega
        have hCi : ¬ C = i := by omega
        have hpos : 0 < hs.length - i := by omega
        have HZO : Hid (∀ v ∈ (Builtin.zeroCells (Value.agg #[.string ByteArray.empty, .slice none 0 0, .int .i64 0, .int .i64 0]).cells (hs.length - i)).toList, v.oneCell' = true) := by show ∀ v ∈ _, _; rw [zero_manyE]; exact kEn.all_one' _
        have hfz : i * 4 + (Builtin.zeroCells (Value.agg #[.string ByteArray.empty, .slice none 0 0, .int .i64 0, .int .i64 0]).cells (hs.length - i)).toList.length ≤ (kEn.all cur).length := by rw [zero_manyE, KE.len4, KE.len4, List.length_replicate, hcl, hC]; omega
        have k1 := hk.row (cur.take i ++ (List.replicate (hs.length - i) ze ++ zs)) (fun x hx => by
          rcases List.mem_append.1 hx with q | q
          · exact hk.deep x (List.mem_of_mem_take q)
          · rcases List.mem_append.1 q with q | q
            · rw [(List.mem_replicate.1 q).2]
              exact ⟨ze_deep _, fun k hk => by rw [ze_blocks] at hk; cases hk⟩
            · refine hk.deep x ?_
              have : x ∈ cur.drop hs.length := by rw [hD.rest, List.drop_left' rfl]; exact q
              exact List.mem_of_mem_drop this)
        have hf1 := hf.row (kEn.all (cur.take i ++ (List.replicate (hs.length - i) ze ++ zs))).toArray
        rw [← d5] at k1 hf1
        have HK := Lib.hid k1
        have HFF := Lib.hid hf1
        have hbk := hk.blk
        have HD3 := Lib.hid (And.intro d1 (And.intro d2 (And.intro d3 d4)))
        generalize cur.take i = T at *
        clear k1 hf1 d1 d2 d3 d4 d5 hk hf hD
        go_wp2_with (refine at_clear ?_; refine wpList_clearK rfl (.tmp 38) _ rfl Tryz.underlying23 hj0 hw0 rfl hbk hpos HZO.out hfz ?_; rintro w2 hw2; rw [zero_manyE] at hw2; subst hw2)
        go_ret
        exact ⟨T, _, i, rfl, HD3.out.1, HD3.out.2.1, by rw [HD3.out.2.2.1]; exact hC, HD3.out.2.2.2, HK.out, HFF.out⟩
  · have hplc : plc (hs.map Prod.fst) p = -1 := by unfold plc; rw [List.length_map, if_neg hit]
    rw [hplc] at HI
    have HFI : Hid (hs.map Prod.fst = (hs.map Prod.fst).filter fun b => !p b) := by
      refine (List.filter_eq_self.2 fun b hb => ?_).symm
      obtain ⟨k, hk, rfl⟩ := List.mem_iff_getElem.1 hb
      have hle : (hs.map Prod.fst).findIdx p ≤ (hs.map Prod.fst).length := List.findIdx_le_length
      rw [List.length_map] at hle hk
      have := List.not_of_lt_findIdx (xs := hs.map Prod.fst) (p := p) (i := k) (by omega)
      simpa using this
    clear hit hplc h
    go_enter Tryz.func35, Tryz.ntmps35
    go_wp2_with fail
    with_reducible refine HI.out.mono ?_
    rintro e w1 ⟨rfl, hb1⟩
    go_wp2
    go_ret
    exact ⟨hs, zs, hs.length, rfl, rfl, HFI.out, hC, fun x hx => .inl hx, HKB.out.below hb1, Far.of hb1 hgl⟩
end Go.Proofs.YtekbgopdeancpaaGreatDoor
