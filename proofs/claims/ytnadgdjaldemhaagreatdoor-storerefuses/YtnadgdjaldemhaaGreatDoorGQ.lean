/- Texts that belong together: what the functions of the program and of the statements return. -/
import Derived.Test.YtnadgdjaldemhaaGreatDoorGO
import Derived.Lib.Hide
import Derived.Test.YtnadgdjaldemhaaGreatDoorGA
import Derived.RegionTactic
import Derived.IntWalk
import Derived.Test.YtnadgdjaldemhaaGreatDoorRows
import Derived.Deep.RegionLaw
import Derived.Test.YtnadgdjaldemhaaGreatDoorGP
import Derived.Test.YtnadgdjaldemhaaGreatDoorGP
import Derived.Deep.RegionHeldLaw
import Derived.Deep.CutBlock
import Derived.Deep.CutRange
import Derived.BigQuiet
/- What putting and dropping blobs hand back. Nothing of the program. -/
namespace Go.Proofs.YtnadgdjaldemhaaGreatDoor
open Go.RowKit
/-- blobs that are new, a digest and an error -/
def GivesPut (l : List Bl) (d : List UInt8) (err : Int) (w : World) (e : Ending) (w' : World) : Prop :=
  ∃ A n c, e = .returned (.tuple #[.slice A n c, .string (str d), .int .i64 err]) ∧ KNew kBl w' w.heap.size A n c l ∧ Below w.heap.size w w'
theorem givesPut_nil {w w' : World} {err : Int} {e : Ending} (h : e = .returned (.tuple #[.slice none 0 0, .string (str []), .int .i64 err])) (hb : Below w.heap.size w w') : GivesPut [] [] err w e w' :=
  ⟨none, 0, 0, h, KNew.nil _ _, hb⟩
theorem bTo_eq {l : List Bl} {d : List UInt8} {k : Nat} (hk : k ≤ l.length) (h1 : ∀ j (h : j < l.length), j < k → Op.bytesLess l[j].dg d = true) (h2 : ∀ h : k < l.length, Op.bytesLess l[k].dg d = false) : bTo l d = k := by
  rcases Nat.lt_trichotomy (bTo l d) k with q | q | q
  · have hlt := Nat.lt_of_lt_of_le q hk
    have h0 : (!Op.bytesLess l[bTo l d].dg d) = true := List.findIdx_getElem (xs := l) (p := fun b : Bl => !Op.bytesLess b.dg d) (w := hlt)
    rw [h1 _ hlt q] at h0
    cases h0
  · exact q
  · have hkl : k < l.length := Nat.lt_of_lt_of_le q (bTo_le l d)
    have := bTo_front q
    rw [h2 hkl] at this
    cases this
/-- blobs that are new and an error -/
def GivesBs (l : List Bl) (err : Int) (w : World) (e : Ending) (w' : World) : Prop :=
  ∃ A n c, e = .returned (.tuple #[.slice A n c, .int .i64 err]) ∧ KNew kBl w' w.heap.size A n c l ∧ Below w.heap.size w w'
theorem givesBs_nil {w w' : World} {err : Int} {e : Ending} (h : e = .returned (.tuple #[.slice none 0 0, .int .i64 err])) (hb : Below w.heap.size w w') : GivesBs [] err w e w' :=
  ⟨none, 0, 0, h, KNew.nil _ _, hb⟩
theorem bAt_eq {l : List Bl} {d : List UInt8} {k : Nat} (hk : k ≤ l.length) (h1 : ∀ j (h : j < l.length), j < k → l[j].dg ≠ d) (h2 : ∀ h : k < l.length, l[k].dg = d) : bAt l d = k := by
  rcases Nat.lt_trichotomy (bAt l d) k with q | q | q
  · exact absurd (bAt_there (Nat.lt_of_lt_of_le q hk)) (h1 _ _ q)
  · exact q
  · have hkl : k < l.length := Nat.lt_of_lt_of_le q (bAt_le l d)
    have := List.not_of_lt_findIdx (xs := l) (p := fun b : Bl => b.dg == d) q
    rw [h2 hkl] at this
    simp at this
/-- a row of blobs of the call's own, whatever the slice value -/
theorem KOwn.row {α η : Type} {K : Kin α η} {w : World} {base : Nat} {e : TypeId} {v : Value} {l : List α} (h : KOwn K w base e v l) : ∃ hs : List (α × η), hs.map Prod.fst = l ∧ w.ownsRow base e K.size v l.length (K.all hs) ∧ ∀ x ∈ hs, K.deep w x.1 x.2 ∧ ∀ k ∈ K.blocks x.2, base ≤ k ∧ k < w.heap.size ∧ v.ownBlock ≠ some k := h
end Go.Proofs.YtnadgdjaldemhaaGreatDoor
/- bytes.Clone and the landed blob.Copy. -/
namespace Go.Proofs.YtnadgdjaldemhaaGreatDoor
open Go.RowKit
set_option maxRecDepth 100000 in
set_option maxHeartbeats 400000 in
theorem bclone_any (A : Option Addr) (n c : Nat) (l : List UInt8) (w : World) (hr : Rd w 1 A n c (l.map bv8)) (hz : n ≤ 140737488351232) :
    Calls Tryz.prog 60 #[.slice A n c] w fun e w' => ∃ v, e = .returned v ∧ w'.ownsRow w.heap.size 5 1 v n (l.map bv8) ∧ Below w.heap.size w w' := by
  obtain rfl := hr.len
  obtain ⟨i0, hi0, hz0, hz1, hz2⟩ := info_parts u8_info
  rcases A with _ | a
  · have hl : l = [] := by
      rcases Nat.eq_zero_or_pos (l.map bv8).length with h0 | h0
      · simpa using h0
      · obtain ⟨b, off, h1, _⟩ := hr.2.2.2 h0; cases h1
    subst hl
    have he : ∀ w : World, (binOp .eql 36 (.slice none 0 c) (.slice none 0 0)).run Tryz.prog w = .ok (.bool true) w := fun _ => rfl
    go_enter Tryz.func60, Tryz.ntmps60
    go_wp2
    go_ret
    exact ⟨_, rfl, World.ownsRow_nil _ _ _ _, Below.refl _ _⟩
  · have hown : (w.alloc (.cells #[] 5)).ownsRow w.heap.size 5 1 (.slice (some ⟨w.heap.size, 0, none⟩) 0 0) 0 [] :=
      ⟨rfl, .inr ⟨w.heap.size, 0, #[], rfl, Nat.le_refl _, heap_alloc_new w _, Nat.le_refl _, by simp [maxLen], rfl, rfl⟩⟩
    have hb0 := (Below.refl w.heap.size w).alloc (Nat.le_refl _) (.cells #[] 5)
    have hr1 := hr.below hb0
    have hcells : ∀ j u, (l.map bv8)[j]? = some u → (w.alloc (.cells #[] 5)).cell? (a.add j) = some u := fun j u hj => by
      obtain ⟨b, off, h1, hc⟩ := hr1.at hj
      injection h1 with h1
      subst h1
      rw [addr_addK]; exact hc
    have HC := Lib.hid hcells
    clear hcells
    have he : ∀ w : World, (binOp .eql 36 (.slice (some a) l.length c) (.slice none 0 0)).run Tryz.prog w = .ok (.bool false) w := fun _ => rfl
    go_enter Tryz.func60, Tryz.ntmps60
    go_wp2_with (at_builtin; refine wpList_append2 rfl (.tmp 5) (.tmp 6) _ rfl Tryz.underlying36 hi0 hz0 hz1 hz2 rfl (by omega) _ 0 [] rfl hown a l.length c (l.map bv8) (by simp) HC.out (bytes_one _) rfl (by omega) (by unfold maxLen; omega) hb0.size ?_; rintro v1 w1 ⟨hown1, hb1⟩; rw [Nat.zero_add, List.nil_append] at hown1)
    go_ret
    exact ⟨_, rfl, hown1, hb0.trans hb1⟩
/-- the copy as the call hands it back -/
def GivesC (l : List Bl) (w : World) (e : Ending) (w' : World) : Prop :=
  ∃ g hs, e = .returned (.slice (some ⟨g, 0, none⟩) l.length l.length) ∧ hs.map Prod.fst = l ∧ KB w' w.heap.size g 51 hs ∧ Below w.heap.size w w'
set_option maxRecDepth 100000 in
set_option maxHeartbeats 4000000 in
theorem bcopy_any (A : Option Addr) (n c : Nat) (l : List Bl) (w : World) (hr : KRd kBl w A n c l) (hg : ∀ p ∈ l, p.good) (hz : n * 56 ≤ 140737488351232) :
    Calls Tryz.prog 52 #[.slice A n c] w (GivesC l w) := by
  obtain rfl := hr.len
  obtain ⟨j0, hj0, hw0, hw1, hw2⟩ := info_parts blob_info
  have HG := Lib.hid hg
  clear hg
  have hmk : ∀ W : World, (Instr.makeSlice 25 (.int .i64 (l.length : Int)) (.int .i64 (l.length : Int))).run Tryz.prog W = .ok (.slice (some ⟨W.heap.size, 0, none⟩) l.length l.length) (W.alloc (.cells (kBl.all (List.replicate l.length zb)).toArray 51)) := fun W => by
    have h := run_make (P := Tryz.prog) W 25 51 j0 _ Tryz.underlying25 hj0 hw0 .i64 .i64 l.length l.length (by omega) (by omega) (by rw [hw2]; omega) (by omega)
    simp only [Int.toNat_natCast, hw1] at h
    rw [h]
    congr 3
    exact made_blobs l.length
  have hal := (Below.refl w.heap.size w).alloc (Nat.le_refl _) (.cells (kBl.all (List.replicate l.length zb)).toArray 51)
  have hkb : KB (w.alloc (.cells (kBl.all (List.replicate l.length zb)).toArray 51)) w.heap.size w.heap.size 51 (List.replicate l.length zb) :=
    ⟨Blk.new w _ _, Nat.le_refl _, fun x hx => by
      rw [List.mem_replicate] at hx
      rw [hx.2]
      exact ⟨zb_deep _, fun k hk => by rw [zb_blocks] at hk; cases hk⟩⟩
  obtain ⟨g, hgE⟩ : ∃ g, w.heap.size = g := ⟨_, rfl⟩
  have hge : w.heap.size ≤ g := by omega
  go_enter Tryz.func52, Tryz.ntmps52
  go_wp2
  have hkb2 : KB (w.alloc (.cells (kBl.all (List.replicate l.length zb)).toArray 51)) w.heap.size g 51 (List.replicate l.length zb) := by
    rw [← hgE]; exact hkb
  clear hmk hkb
  go_loopw [4, 5, 11] (fun _ _ i wr => ∃ (k : Nat) (acc : List (Bl × Hd)), k ≤ l.length ∧ i = .int .i64 k ∧ Hid (acc.length = k) ∧ Hid (acc.map Prod.fst = l.take k) ∧ KB wr w.heap.size g 51 (acc ++ List.replicate (l.length - k) zb) ∧ Below w.heap.size w wr) (fun _ _ i _ => l.length - (intOf i).toNat)
  case atStart => exact ⟨0, [], Nat.zero_le _, rfl, rfl, rfl, by simpa using hkb2, hal⟩
  case round =>
    clear hkb2 hal hgE
    obtain ⟨k, acc, hk, rfl, HA, HM, hkb, hbel⟩ := hrel
    by_cases hlt : k < l.length
    · obtain ⟨b, off, D, dn, dc, rfl, hc0, hc1, hc2, hc3, hrD, hDn⟩ := (hr.below hbel).blob hlt
      have hgk := HG.out l[k] (List.getElem_mem hlt)
      have HT : Hid (l.take (k + 1) = l.take k ++ [l[k]]) := List.take_succ_eq_append_getElem hlt
      have hki : (k : Int) < (l.length : Int) := by omega
      generalize l[k] = p at *
      obtain ⟨dgs, dts, pn, mr⟩ := p
      obtain ⟨-, -, g2⟩ := hgk
      simp only at g2 hc0 hc1 hc2 hc3 hrD
      have hdl : dn ≤ 140737488351232 := by rw [hrD.len]; exact g2
      have hal := (Below.refl wr.heap.size wr).alloc (Nat.le_refl _) (.cells #[.string (str dgs), .slice D dn dc, .int .i64 pn, .bool mr] 51)
      have hbk := Blk.new wr 51 [.string (str dgs), .slice D dn dc, .int .i64 pn, .bool mr]
      have hrD' := hrD.below hal
      have e1 := hbk.cell 1
      simp only [List.getElem?_cons_succ, List.getElem?_cons_zero] at e1
      obtain ⟨gb, hgb⟩ : ∃ gb, wr.heap.size = gb := ⟨_, rfl⟩
      go_wp2_with fail
      with_reducible refine (bclone_any _ _ _ dts _ hrD' hdl).mono ?_
      rintro e w5 ⟨v5, rfl, hown5, hb5⟩
      have hl5 := Lib.hid hown5.lt
      obtain ⟨A5, c5, rfl, hr5, hA5, hF5⟩ := own_rdF hown5
      have hbk5 := hbk.below hb5 hbk.lt
      rw [hgb] at hbk5
      have hbE := hal.trans (hb5.mono hal.size)
      have hbF := hbE.setCell (p := ⟨gb, 1, none⟩) (by show wr.heap.size ≤ gb; omega) (.slice A5 dn c5)
      have hkb6 := hkb.below hbF
      have hbk6 := hbk5.put 1 (.slice A5 dn c5)
      simp only [List.set_cons_succ, List.set_cons_zero] at hbk6
      have hzU : gb < (wr.alloc (.cells #[.string (str dgs), .slice D dn dc, .int .i64 pn, .bool mr] 51)).heap.size := by rw [← hgb]; simp
      have hr6 : Rd (w5.setCell ⟨gb, 1, none⟩ (.slice A5 dn c5)) 1 A5 dn c5 (dts.map bv8) := hr5.keepLt fun a ha _ => Below.heap_setCell w5 ⟨gb, 1, none⟩ _ a.block (by have := hF5 a ha; show a.block ≠ gb; omega)
      have hgl : g < wr.heap.size := hkb.blk.lt
      have hx6 : kBl.deep (w5.setCell ⟨gb, 1, none⟩ (.slice A5 dn c5)) ⟨dgs, dts, pn, mr⟩ ⟨A5, dn, c5⟩ ∧ ∀ j ∈ kBl.blocks ⟨A5, dn, c5⟩, w.heap.size ≤ j ∧ j < (w5.setCell ⟨gb, 1, none⟩ (.slice A5 dn c5)).heap.size ∧ j ≠ g := by
        refine ⟨⟨hr6, hA5⟩, fun j hj => ?_⟩
        obtain ⟨a, rfl, rfl⟩ := mem_blk1.1 hj
        have q1 := hF5 a rfl
        have q2 := (hl5.out a.block rfl).2
        have q3 := hbel.size
        exact ⟨by omega, by simpa using q2, by omega⟩
      have hLl : k < (acc ++ List.replicate (l.length - k) zb).length := by rw [List.length_append, List.length_replicate]; have := HA.out; omega
      have hkb7 := hkb6.put k (⟨dgs, dts, pn, mr⟩, ⟨A5, dn, c5⟩) hLl hx6
      have hset : (acc ++ List.replicate (l.length - k) zb).set k (⟨dgs, dts, pn, mr⟩, ⟨A5, dn, c5⟩) = (acc ++ [(⟨dgs, dts, pn, mr⟩, ⟨A5, dn, c5⟩)]) ++ List.replicate (l.length - (k + 1)) zb := by
        have := zb_mid acc (⟨dgs, dts, pn, mr⟩, ⟨A5, dn, c5⟩) (l.length - k) (by omega)
        rwa [HA.out, show l.length - k - 1 = l.length - (k + 1) by omega] at this
      rw [hset] at hkb7
      have hbG := below_step hbel hbF
      have hbH := (((hbG.setCell (p := ⟨g, k * 4, none⟩) hge (.string (str dgs))).setCell (p := ⟨g, k * 4 + 1, none⟩) hge (.slice A5 dn c5)).setCell (p := ⟨g, k * 4 + 2, none⟩) hge (.int .i64 pn)).setCell (p := ⟨g, k * 4 + 3, none⟩) hge (.bool mr)
      have q0 := kBl.all_at _ k hLl 0 (by decide)
      have q1 := kBl.all_at _ k hLl 1 (by decide)
      have q2 := kBl.all_at _ k hLl 2 (by decide)
      have q3 := kBl.all_at _ k hLl 3 (by decide)
      generalize (acc ++ List.replicate (l.length - k) zb)[k] = zz at q0 q1 q2 q3
      have s0 := hkb6.blk.cell (k * 4)
      have s1 := hkb6.blk.cell (k * 4 + 1)
      have s2 := hkb6.blk.cell (k * 4 + 2)
      have s3 := hkb6.blk.cell (k * 4 + 3)
      have r0 : (kBl.all (acc ++ List.replicate (l.length - k) zb))[k * 4]? = some (.string (str zz.1.dg)) := q0
      have r1 : (kBl.all (acc ++ List.replicate (l.length - k) zb))[k * 4 + 1]? = some (.slice zz.2.A zz.2.n zz.2.c) := q1
      have r2 : (kBl.all (acc ++ List.replicate (l.length - k) zb))[k * 4 + 2]? = some (.int .i64 zz.1.pn) := q2
      have r3 : (kBl.all (acc ++ List.replicate (l.length - k) zb))[k * 4 + 3]? = some (.bool zz.1.mr) := q3
      rw [r0] at s0
      rw [r1] at s1
      rw [r2] at s2
      rw [r3] at s3
      have f0 := hkb6.blk.frozen (k * 4)
      have f1 := hkb6.blk.frozen (k * 4 + 1)
      have f2 := hkb6.blk.frozen (k * 4 + 2)
      have f3 := hkb6.blk.frozen (k * 4 + 3)
      have o1 := hbk5.cell 1
      have o1f := hbk5.frozen 1
      have t0 := hbk6.cell 0
      have t1 := hbk6.cell 1
      have t2 := hbk6.cell 2
      have t3 := hbk6.cell 3
      simp only [List.getElem?_cons_succ, List.getElem?_cons_zero] at o1 t0 t1 t2 t3
      have H7 := Lib.hid hkb7
      clear q0 q1 q2 q3 r0 r1 r2 r3 hset hkb6 hkb7 hx6 hr6 hr5 hown5 hbk hbk5 hbk6 hrD hrD' hc0 hc1 hc2 hc3 hal hbE hbF hkb e1
      go_wp2
      go_roundw
      case rel => exact ⟨k + 1, acc ++ [(⟨dgs, dts, pn, mr⟩, ⟨A5, dn, c5⟩)], by omega, by go_num, (by show _ = _; rw [List.length_append, HA.out]; rfl), (by show _ = _; rw [List.map_append, HM.out, HT.out]; rfl), H7.out, hbH⟩
      case measure => simp [intOf] <;> omega
    · have hkv : k = l.length := by omega
      subst hkv
      have hd2 : decide ((l.length : Int) < (l.length : Int)) = false := by simp
      go_wp2
      go_ret
      refine ⟨g, acc, rfl, ?_, by simpa using hkb, hbel⟩
      rw [HM.out, List.take_length]
end Go.Proofs.YtnadgdjaldemhaaGreatDoor
/- slices.Insert of one blob into a row without room. -/
namespace Go.Proofs.YtnadgdjaldemhaaGreatDoor
open Go.RowKit
theorem kown_new {w w' : World} {base : Nat} {e : TypeId} {v : Value} {ms : List (Bl × Hd)} (hB : base ≤ w.heap.size) (ho : w'.ownsRow w.heap.size e 4 v ms.length (kBl.all ms)) (hm : ∀ x ∈ ms, kBl.deep w x.1 x.2 ∧ ∀ k ∈ kBl.blocks x.2, base ≤ k ∧ k < w.heap.size) (hb : Below w.heap.size w w') : KOwn kBl w' base e v (ms.map Prod.fst) := by
  refine ⟨ms, rfl, by rw [List.length_map]; exact own_base ho hB, fun x hx => ⟨kBl.keep (hm x hx).1 fun k _ hk => hb.block k hk, fun k hk => ?_⟩⟩
  obtain ⟨q1, q2⟩ := (hm x hx).2 k hk
  exact ⟨q1, Nat.lt_of_lt_of_le q2 hb.size, fun q => by have := (ho.lt k q).1; omega⟩
theorem ins_mem {ms : List (Bl × Hd)} {x y : Bl × Hd} {i : Nat} (h : y ∈ ms.take i ++ x :: ms.drop i) : y = x ∨ y ∈ ms := by
  rcases List.mem_append.1 h with h | h
  · exact .inr (List.mem_of_mem_take h)
  · rcases List.mem_cons.1 h with h | h
    · exact .inl h
    · exact .inr (List.mem_of_mem_drop h)
theorem one_rd {w : World} {g : Nat} {t : TypeId} {x : Bl × Hd} (h : Blk w g t (kBl.cells x.1 x.2)) : Rd w 4 (some ⟨g, 0, none⟩) 1 1 (kBl.all [x]) := by
  rw [Kin.all_one]
  have := h.rd (size := 4) (n := 1) (c := 1) (Nat.le_refl _) (by unfold maxLen; omega) (by rw [kBl.len]; decide)
  rwa [List.take_of_length_le (by rw [kBl.len]; decide)] at this
theorem KB.take {w : World} {base g : Nat} {t : TypeId} {hs : List (Bl × Hd)} (h : KB w base g t hs) {i c : Nat} (hi : i ≤ hs.length) (hc : i ≤ c) (hm : c ≤ maxLen) : Rd w 4 (some ⟨g, 0, none⟩) i c (kBl.all (hs.take i)) := by
  have := h.blk.rd (size := 4) (n := i) (c := c) hc hm (by rw [KB.len4]; omega)
  rwa [show (kBl.all hs).take (i * 4) = kBl.all (hs.take i) from kBl.all_take hs i] at this
theorem KB.drop {w : World} {base g : Nat} {t : TypeId} {hs : List (Bl × Hd)} (h : KB w base g t hs) {i : Nat} (hm : hs.length ≤ maxLen) : Rd w 4 (some ⟨g, i * 4, none⟩) (hs.length - i) (hs.length - i) (kBl.all (hs.drop i)) := by
  refine ⟨by rw [KB.len4, List.length_drop], Nat.le_refl _, by omega, fun _ => ⟨g, i * 4, rfl, fun j v hv => ?_⟩⟩
  rw [h.blk.cell, ← hv, ← show (kBl.all hs).drop (i * 4) = kBl.all (hs.drop i) from kBl.all_drop hs i, List.getElem?_drop]
set_option maxRecDepth 100000 in
set_option maxHeartbeats 1000000 in
theorem insert_end (w : World) (base g g2 : Nat) (hs : List (Bl × Hd)) (x : Bl × Hd) (L : Nat) (hL : hs.length = L) (hL23 : L ≤ 23) (hB : base ≤ w.heap.size) (h : KB w base g 51 hs) (h2 : Blk w g2 51 (kBl.cells x.1 x.2))
    (hx : kBl.deep w x.1 x.2 ∧ ∀ k ∈ kBl.blocks x.2, base ≤ k ∧ k < w.heap.size) :
    Calls Tryz.prog 79 #[.slice (some ⟨g, 0, none⟩) L L, .int .i64 (L : Int), .slice (some ⟨g2, 0, none⟩) 1 1] w fun e w' => ∃ v, e = .returned v ∧ KOwn kBl w' base 51 v ((hs.take L ++ x :: hs.drop L).map Prod.fst) ∧ Below w.heap.size w w' := by
  obtain ⟨j0, hj0, hw0, hw1, hw2⟩ := info_parts blob_info
  have hr0 : Rd w 4 (some ⟨g, 0, none⟩) L L (kBl.all hs) := by
    have := h.take (i := L) (c := L) (by omega) (Nat.le_refl _) (by unfold maxLen; omega)
    rwa [List.take_of_length_le (by omega)] at this
  have hr2 := one_rd h2
  have hm : ∀ y ∈ hs ++ [x], kBl.deep w y.1 y.2 ∧ ∀ k ∈ kBl.blocks y.2, base ≤ k ∧ k < w.heap.size := fun y hy => by
    rcases List.mem_append.1 hy with q | q
    · exact ⟨(h.deep y q).1, fun k hk => ⟨((h.deep y q).2 k hk).1, ((h.deep y q).2 k hk).2.1⟩⟩
    · rw [List.mem_singleton] at q; subst q; exact hx
  have HM := Lib.hid hm
  have HE : Hid (hs.take L ++ x :: hs.drop L = hs ++ [x]) := by show _ = _; rw [List.take_of_length_le (by omega), List.drop_of_length_le (by omega)]
  have HLN : Hid ((hs ++ [x]).length = L + 1) := by show _ = _; rw [List.length_append, hL]; rfl
  rw [HE.out]
  clear h h2 hx hm HE hL
  go_enter Tryz.func79, Tryz.ntmps79
  go_wp2_with (at_builtin; refine wpList_appendG rfl (.tmp 23) (.tmp 24) _ rfl Tryz.underlying25 hj0 hw0 hw1 hw2 rfl (by omega) rfl hr0 (fun q => (by cases q)) rfl hr2 (kBl.all_one' [x]) (by omega) (by unfold maxLen; omega) (by omega) ?_; rintro v1 w1 ⟨hown1, hb1⟩)
  have hown2 : w1.ownsRow w.heap.size 51 4 v1 (hs ++ [x]).length (kBl.all (hs ++ [x])) := by rw [HLN.out, Kin.all_append]; exact hown1
  go_ret
  exact ⟨_, rfl, kown_new hB hown2 HM.out hb1, hb1⟩
theorem ins_done {w3 : World} {B g3 cap3 i L M : Nat} {T : TypeId} {CUR xa y xb : List Value} {ms : List (Bl × Hd)} (hg : B ≤ g3) (hbk4 : Blk w3 g3 T (lay CUR (i * 4) y)) (hc : CUR.length = cap3 * 4) (hMc : M ≤ cap3) (hx : cap3 ≤ 9223372036854775807)
    (hl : Hid (lay (lay CUR (i * 4) y) ((i + 1) * 4) xb = xa ++ y ++ xb ++ CUR.drop (M * 4))) (h1 : xa.length = i * 4) (hy : y.length = 4) (hb : xb.length = (L - i) * 4) (hLM : M = L + 1) (hi : i < L) (hm : ms.length = M) (hal : kBl.all ms = xa ++ y ++ xb) :
    (w3.setRow g3 (lay (lay CUR (i * 4) y) ((i + 1) * 4) xb).toArray).ownsRow B T 4 (.slice (some ⟨g3, 0, none⟩) M cap3) ms.length (kBl.all ms) := by
  have hbk5 : Blk (w3.setRow g3 (lay (lay CUR (i * 4) y) ((i + 1) * 4) xb).toArray) g3 T (lay (lay CUR (i * 4) y) ((i + 1) * 4) xb) := setRow_heap _ g3 _ _ _ _ hbk4
  have hll : (lay CUR (i * 4) y).length = cap3 * 4 := by rw [lay_length _ _ _ (by omega)]; exact hc
  refine ⟨KB.len4 ms, .inr ⟨g3, cap3, _, by rw [hm], hg, hbk5, by rw [hm]; exact hMc, hx, ?_, ?_⟩⟩
  · rw [List.size_toArray, lay_length _ _ _ (by rw [hll, hb]; omega)]; exact hll
  · rw [List.toList_toArray, hl.out, hal, List.take_left' (by rw [List.length_append, List.length_append, h1, hb, hy, hm]; omega)]
set_option maxRecDepth 100000 in
set_option maxHeartbeats 2000000 in
theorem insert_mid (w : World) (base g g2 : Nat) (hs : List (Bl × Hd)) (x : Bl × Hd) (L i : Nat) (hL : hs.length = L) (hL23 : L ≤ 23) (hi : i < L) (hB : base ≤ w.heap.size) (h : KB w base g 51 hs) (h2 : Blk w g2 51 (kBl.cells x.1 x.2))
    (hx : kBl.deep w x.1 x.2 ∧ ∀ k ∈ kBl.blocks x.2, base ≤ k ∧ k < w.heap.size) :
    Calls Tryz.prog 79 #[.slice (some ⟨g, 0, none⟩) L L, .int .i64 (i : Int), .slice (some ⟨g2, 0, none⟩) 1 1] w fun e w' => ∃ v, e = .returned v ∧ KOwn kBl w' base 51 v ((hs.take i ++ x :: hs.drop i).map Prod.fst) ∧ Below w.heap.size w w' := by
  obtain ⟨j0, hj0, hw0, hw1, hw2⟩ := info_parts blob_info
  have hr0 := h.take (i := i) (c := L) (by omega) (by omega) (by unfold maxLen; omega)
  have hr1 := h.drop (i := i) (by unfold maxLen; omega)
  rw [hL] at hr1
  have hr2 := one_rd h2
  have hm : ∀ y ∈ hs.take i ++ x :: hs.drop i, kBl.deep w y.1 y.2 ∧ ∀ k ∈ kBl.blocks y.2, base ≤ k ∧ k < w.heap.size := fun y hy => by
    rcases ins_mem hy with q | q
    · subst q; exact hx
    · exact ⟨(h.deep y q).1, fun k hk => ⟨((h.deep y q).2 k hk).1, ((h.deep y q).2 k hk).2.1⟩⟩
  have HM := Lib.hid hm
  have hl1 : (kBl.all (hs.take i)).length = i * 4 := by rw [KB.len4, List.length_take]; omega
  have hl2 : (kBl.all (hs.drop i)).length = (L - i) * 4 := by rw [KB.len4, List.length_drop, hL]
  have HLN : Hid ((hs.take i ++ x :: hs.drop i).length = L + 1) := by show _ = _; simp; omega
  have HAL : Hid (kBl.all (hs.take i ++ x :: hs.drop i) = kBl.all (hs.take i) ++ kBl.all [x] ++ kBl.all (hs.drop i)) := by
    show _ = _
    rw [Kin.all_append, Kin.all_cons, Kin.all_one, List.append_assoc]
  obtain ⟨K, hK⟩ : ∃ K : Nat, L + 1 - i = K := ⟨_, rfl⟩
  have hkk : (L : Int) + 1 - (i : Int) = (K : Int) := by omega
  have hiL : (i : Int) ≤ (L : Int) := by omega
  have hne : ((i : Int) == (L : Int)) = false := by rw [beq_eq_false_iff_ne]; omega
  have hne2 : ¬ (i : Int) = (L : Int) := by omega
  have hne3 : ¬ i = L := by omega
  have hne4 : ¬ L = i := by omega
  generalize hs.take i ++ x :: hs.drop i = ms at *
  generalize kBl.all (hs.take i) = xa at *
  generalize hxb : kBl.all (hs.drop i) = xb at *
  have ob : ∀ v ∈ xb, v.oneCell' = true := by rw [← hxb]; exact kBl.all_one' _
  have HOB := Lib.hid ob
  have HL1 := Lib.hid hl1
  have HL2 := Lib.hid hl2
  have HCE : Hid (∀ v ∈ kBl.all [x], v.oneCell' = true) := kBl.all_one' [x]
  have hy4 : (kBl.all [x]).length = 4 := by rw [KB.len4]; rfl
  have HY4 := Lib.hid hy4
  generalize kBl.all [x] = y at *
  obtain ⟨M, hM⟩ : ∃ M, i + K = M := ⟨_, rfl⟩
  have hLM : M = L + 1 := by omega
  have HMM := Lib.hid hM
  have HLM := Lib.hid hLM
  have hMi : M ≤ 24 := by omega
  have i2 : (i : Int) ≤ (M : Int) := by omega
  have i6 : (i : Int) + 1 ≤ (M : Int) := by omega
  have i8 : 1 ≤ M - i := by omega
  have i9 : L - i ≤ M - (i + 1) := by omega
  have i11 : L + 1 ≤ M := by omega
  have hi1 : i < M := by omega
  have hwr : IntKind.i64.wrap ((i : Int) + 1) = (i : Int) + 1 := IntWalk.i64_in _ (by omega)
  have htn : ((i : Int) + 1).toNat = i + 1 := by omega
  have hi0 : (0 : Int) ≤ (i : Int) + 1 := by omega
  have hi2 : i + 1 < M := by omega
  have hzl : ∀ z : Value, z.cells.size = 4 → (Builtin.zeroCells z.cells K).toList.length = K * 4 := fun z hz => by rw [Array.length_toList]; simp [Builtin.zeroCells, hz]
  have HZ := Lib.hid hzl
  clear h h2 hx hm hxb ob hl1 hl2 hM hLM hzl hy4
  go_enter Tryz.func79, Tryz.ntmps79
  go_wp2_with (first
    | (at_builtin; refine wpList_appendZ rfl (.tmp 34) (.tmp 39) _ _ rfl Tryz.underlying25 Tryz.underlying3 hj0 hw0 hw1 hw2 rfl (by omega) rfl rfl hr0 (fun q => (by cases q)) (by omega) (by omega) (by omega) (by omega) ?_; rintro v3 w3 ⟨hown3, hb3⟩; obtain ⟨g3, cap3, CUR, rfl, hge3, hblk3, hcl, hMc, hcx3, HLY⟩ := ins_prep hown3 (HZ.out _ rfl) HMM.out HLM.out hi HL1.out HY4.out HL2.out; have i1 : (i : Int) ≤ (cap3 : Int) := (by omega); have i3 : ¬ cap3 = i := (by omega); have i4 : ¬ cap3 = i + 1 := (by omega); have i5 : (i : Int) + 1 ≤ (cap3 : Int) := (by omega); have hr2' := hr2.below hb3; have hf1 : i * 4 + y.length ≤ CUR.length := (by rw [HY4.out, hcl]; omega))
    | (refine at_copy ?_; refine wpList_copyK rfl (.tmp 43) (.tmp 44) _ _ rfl Tryz.underlying25 hj0 hw1 rfl rfl hblk3 hr2' (by rw [HY4.out]; omega) (by omega) hf1 HCE.out ?_; rintro w4 rfl))
  have hbk40 : Blk (w3.setRow g3 (lay CUR (i * 4) y).toArray) g3 51 (lay CUR (i * 4) y) := setRow_heap w3 g3 _ _ _ _ hblk3
  have hbk4 := hbk40.drew
  clear hbk40
  have hb4 := (below_setRow hb3 hge3 (lay CUR (i * 4) y).toArray).drew
  have hr1' := hr1.below hb4
  have hll : (lay CUR (i * 4) y).length = cap3 * 4 := by rw [lay_length _ _ _ hf1]; exact hcl
  have hb5 := below_setRow hb4 hge3 (lay (lay CUR (i * 4) y) ((i + 1) * 4) xb).toArray
  have hown5 := Lib.hid (ins_done (ms := ms) hge3 hbk4 hcl hMc hcx3 HLY HL1.out HY4.out HL2.out HLM.out hi (by rw [HLN.out, HLM.out]) HAL.out)
  have hf2 : (i + 1) * 4 + xb.length ≤ (lay CUR (i * 4) y).length := by rw [hll, HL2.out]; omega
  have hf3 : 0 < xb.length := by rw [HL2.out]; omega
  go_region_law (refine step_copyK (g := g3) (q := (i + 1) * 4) (dLen := M - (i + 1)) (dCap := cap3 - (i + 1)) (A := some ⟨g, i * 4, none⟩) (m := L - i) (c := L - i) (by rfl) (.tmp 50) (.tmp 53) _ _ (by rfl) Tryz.underlying25 hj0 hw1 (by go_simp) (by go_simp) hbk4 hr1' hf3 (by omega) hf2 HOB.out ?_; rintro w5 rfl)
  all_goals
    go_wp2
    go_ret
    exact ⟨_, rfl, kown_new hB hown5.out HM.out hb5, hb5⟩
end Go.Proofs.YtnadgdjaldemhaaGreatDoor
/- The landed blob.Put: where it refuses, and where the bytes are there. -/
namespace Go.Proofs.YtnadgdjaldemhaaGreatDoor
open Go.RowKit Go.Shelf
theorem KB.new {w : World} {base g : Nat} {t : TypeId} {hs : List (Bl × Hd)} {l : List Bl} (h : KB w base g t hs) (hm : hs.map Prod.fst = l) (hx : l.length ≤ maxLen) : KNew kBl w base (some ⟨g, 0, none⟩) l.length l.length l := by
  subst hm
  rw [List.length_map] at hx ⊢
  have hr := h.blk.rd (size := 4) (n := hs.length) (c := hs.length) (Nat.le_refl _) hx (by rw [KB.len4]; exact Nat.le_refl _)
  rw [List.take_of_length_le (by rw [KB.len4]; exact Nat.le_refl _)] at hr
  exact ⟨hs, rfl, hr, fun q => (by cases q), fun a q => (by cases q; exact ⟨h.ge, h.blk.lt⟩), fun x hx => ⟨(h.deep x hx).1, fun k hk => ⟨((h.deep x hx).2 k hk).1, ((h.deep x hx).2 k hk).2.1⟩⟩⟩
set_option maxRecDepth 100000 in
set_option maxHeartbeats 1000000 in
theorem put_no (A : Option Addr) (n c : Nat) (l : List Bl) (B : Option Addr) (m d : Nat) (w : World) (hK : Kon w) (hr : KRd kBl w A n c l) (hg : ∀ p ∈ l, p.good) (er : Int) (he : bsErr l = er) (hne : er ≠ 0) :
    Calls Tryz.prog 45 #[.slice A n c, .slice B m d] w (GivesPut [] [] er w) := by
  have hd : (er != 0) = true := by rw [bne_iff_ne]; exact hne
  have HE := Lib.hid he
  have hal := (Below.refl w.heap.size w).alloc (Nat.le_refl _) (.cells #[.slice A n c] 25)
  have hr1 := hr.below hal
  have hK1 := hK.below hal
  have e0 := (Blk.new w 25 [.slice A n c]).cell 0
  simp only [List.getElem?_cons_zero] at e0
  clear he hne hr hK
  go_enter Tryz.func45, Tryz.ntmps45
  go_wp2_with fail
  with_reducible refine (bcheck_any _ _ _ _ _ hK1 hr1 hg).mono ?_
  rw [HE.out]
  rintro e w1 ⟨rfl, hb1⟩
  go_wp2
  go_ret3
  exact givesPut_nil rfl (below_step hal hb1)
set_option maxRecDepth 100000 in
set_option maxHeartbeats 1000000 in
theorem put_big (A : Option Addr) (n c : Nat) (l : List Bl) (B : Option Addr) (m d : Nat) (b : List UInt8) (w : World) (hK : Kon w) (hr : KRd kBl w A n c l) (hg : ∀ p ∈ l, p.good) (hb : Rd w 1 B m d (b.map bv8)) (he : bsErr l = 0) (hm : 300 < m) :
    Calls Tryz.prog 45 #[.slice A n c, .slice B m d] w (GivesPut [] [] 1 w) := by
  have HE := Lib.hid he
  have hal := (Below.refl w.heap.size w).alloc (Nat.le_refl _) (.cells #[.slice A n c] 25)
  have hr1 := hr.below hal
  have hK1 := hK.below hal
  have e0 := (Blk.new w 25 [.slice A n c]).cell 0
  simp only [List.getElem?_cons_zero] at e0
  clear he hr hK
  go_enter Tryz.func45, Tryz.ntmps45
  go_wp2_with fail
  with_reducible refine (bcheck_any _ _ _ _ _ hK1 hr1 hg).mono ?_
  rw [HE.out]
  rintro e w1 ⟨rfl, hb1⟩
  have hbA := below_step hal hb1
  go_wp2_with fail
  with_reducible refine (digestOf_big _ _ _ _ _ (hb.below hbA) hm).mono ?_
  rintro e w2 ⟨rfl, rfl⟩
  have hbB := hbA.alloc hbA.size (.cells #[.string (str [])] 9)
  go_wp2
  go_ret3
  exact givesPut_nil rfl hbB
set_option maxRecDepth 100000 in
set_option maxHeartbeats 2000000 in
theorem put_there (A : Option Addr) (n c : Nat) (l : List Bl) (B : Option Addr) (m d : Nat) (b : List UInt8) (w : World) (hK : Kon w) (hr : KRd kBl w A n c l) (hg : ∀ p ∈ l, p.good) (hb : Rd w 1 B m d (b.map bv8)) (he : bsErr l = 0) (hm : m ≤ 300) (ha : bAt l (dig b) < l.length) :
    Calls Tryz.prog 45 #[.slice A n c, .slice B m d] w (GivesPut l (dig b) 0 w) := by
  have HE := Lib.hid he
  have h24 := (bsErr_zero.1 he).1
  have hn := hr.len
  have hn24 : n * 56 ≤ 140737488351232 := by omega
  have hmx : l.length ≤ maxLen := by unfold maxLen; omega
  generalize hdd : dig b = dd at *
  have HD := Lib.hid hdd
  have HF : Hid (fErr l dd = 0) := by show _ = _; unfold fErr; rw [if_pos ha]
  have HG := Lib.hid hg
  have hal := (Below.refl w.heap.size w).alloc (Nat.le_refl _) (.cells #[.slice A n c] 25)
  have hr1 := hr.below hal
  have hK1 := hK.below hal
  have hk0 := Blk.new w 25 [.slice A n c]
  have e0 := hk0.cell 0
  simp only [List.getElem?_cons_zero] at e0
  have hszl : l.length ≤ 24 := h24
  clear he ha hdd hg hn h24
  go_enter Tryz.func45, Tryz.ntmps45
  go_wp2_with fail
  with_reducible refine (bcheck_any _ _ _ _ _ hK1 hr1 HG.out).mono ?_
  rw [HE.out]
  rintro e w1 ⟨rfl, hb1⟩
  have hbA := below_step hal hb1
  have hk1 := hk0.below hb1 hk0.lt
  clear e0 hb1 hk0 hr1 hK1
  go_wp2_with fail
  with_reducible refine (digestOf_ok _ _ _ b _ (hK.below hbA) (hb.below hbA) hm).mono ?_
  rw [HD.out]
  rintro e w2 ⟨rfl, hb2⟩
  have hbB := below_step hbA hb2
  have hk2 := hk1.below hb2 hk1.lt
  have hal2 := (Below.refl w2.heap.size w2).alloc (Nat.le_refl _) (.cells #[.string (str dd)] 9)
  have hk3 := hk2.below hal2 hk2.lt
  have hs3 := Blk.new w2 9 [.string (str dd)]
  have hbC := below_step hbB hal2
  have hr3 := hr.below hbC
  have e0 := hk3.cell 0
  have e8 := hs3.cell 0
  simp only [List.getElem?_cons_zero] at e0 e8
  clear hbA hk1 hb2 hbB hk2 hal2 hal
  go_wp2_with fail
  with_reducible refine (find_any _ _ _ _ _ _ hr3).mono ?_
  rw [HF.out]
  rintro e w4 ⟨rfl, hb4⟩
  have hbD := below_step hbC hb4
  have hk4 := hk3.below hb4 hk3.lt
  have hs4 := hs3.below hb4 hs3.lt
  clear e0 e8 hk3 hs3 hbC hr3 hb4
  have hbD' := hbD.drew
  have e0 := hk4.drew.cell 0
  have e8 := hs4.drew.cell 0
  simp only [List.getElem?_cons_zero] at e0 e8
  have hr4 := hr.below hbD'
  have hz4 := hbD'.size
  have l8 := hs4.drew.lt
  go_wp2
  go_region_law (first
    | (go_simp; go_at_call 52; (with_reducible refine (bcopy_any _ _ _ _ _ hr4 HG.out hn24).mono ?_); rintro e w5 ⟨g5, hs5, rfl, hmap5, hkb5, hb5⟩; have e8' := (hb5.cell (p := ⟨w2.heap.size, 0, none⟩) l8).trans e8))
  all_goals
    have hN := (hkb5.new hmap5 hmx).rebase hz4
    have hbE := below_step hbD' hb5
    go_wp2
    go_ret3
    exact ⟨_, _, _, rfl, hN, hbE⟩
set_option maxRecDepth 100000 in
set_option maxHeartbeats 2000000 in
theorem put_full (A : Option Addr) (n c : Nat) (l : List Bl) (B : Option Addr) (m d : Nat) (b : List UInt8) (w : World) (hK : Kon w) (hr : KRd kBl w A n c l) (hg : ∀ p ∈ l, p.good) (hb : Rd w 1 B m d (b.map bv8)) (he : bsErr l = 0) (hm : m ≤ 300) (ha : ¬ bAt l (dig b) < l.length) (h23 : 23 < l.length) :
    Calls Tryz.prog 45 #[.slice A n c, .slice B m d] w (GivesPut [] [] 7 w) := by
  have HE := Lib.hid he
  have h24 := (bsErr_zero.1 he).1
  have hn := hr.len
  obtain rfl : n = 24 := by omega
  generalize hdd : dig b = dd at *
  have HD := Lib.hid hdd
  have HF : Hid (fErr l dd = 5) := by show _ = _; unfold fErr; rw [if_neg ha]
  have HG := Lib.hid hg
  have hal := (Below.refl w.heap.size w).alloc (Nat.le_refl _) (.cells #[.slice A 24 c] 25)
  have hr1 := hr.below hal
  have hK1 := hK.below hal
  have hk0 := Blk.new w 25 [.slice A 24 c]
  have e0 := hk0.cell 0
  simp only [List.getElem?_cons_zero] at e0
  clear he ha hdd hg hn h24 h23
  go_enter Tryz.func45, Tryz.ntmps45
  go_wp2_with fail
  with_reducible refine (bcheck_any _ _ _ _ _ hK1 hr1 HG.out).mono ?_
  rw [HE.out]
  rintro e w1 ⟨rfl, hb1⟩
  have hbA := below_step hal hb1
  have hk1 := hk0.below hb1 hk0.lt
  clear e0 hb1 hk0 hr1 hK1
  go_wp2_with fail
  with_reducible refine (digestOf_ok _ _ _ b _ (hK.below hbA) (hb.below hbA) hm).mono ?_
  rw [HD.out]
  rintro e w2 ⟨rfl, hb2⟩
  have hbB := below_step hbA hb2
  have hk2 := hk1.below hb2 hk1.lt
  have hal2 := (Below.refl w2.heap.size w2).alloc (Nat.le_refl _) (.cells #[.string (str dd)] 9)
  have hk3 := hk2.below hal2 hk2.lt
  have hs3 := Blk.new w2 9 [.string (str dd)]
  have hbC := below_step hbB hal2
  have hr3 := hr.below hbC
  have e0 := hk3.cell 0
  have e8 := hs3.cell 0
  simp only [List.getElem?_cons_zero] at e0 e8
  clear hbA hk1 hb2 hbB hk2 hal2 hal
  go_wp2_with fail
  with_reducible refine (find_any _ _ _ _ _ _ hr3).mono ?_
  rw [HF.out]
  rintro e w4 ⟨rfl, hb4⟩
  have hbD := below_step hbC hb4
  have hk4 := hk3.below hb4 hk3.lt
  clear e0 e8 hk3 hs3 hbC hr3 hb4
  have e0 := hk4.cell 0
  simp only [List.getElem?_cons_zero] at e0
  go_wp2
  go_ret3
  exact givesPut_nil rfl hbD
/-- what the closure of the search tells -/
def later (l : List Bl) (d : List UInt8) (i : Nat) : Bool := match l[i]? with | some x => !Op.bytesLess x.dg d && !(x.dg == d) | none => true
set_option maxRecDepth 100000 in
set_option maxHeartbeats 400000 in
theorem put1_tells (A : Option Addr) (n c : Nat) (l : List Bl) (d : List UInt8) (g g8 : Nat) (w : World) (hg : g < w.heap.size) (hg8 : g8 < w.heap.size) (hc : w.cell? ⟨g, 0, none⟩ = some (.slice A n c)) (hc8 : w.cell? ⟨g8, 0, none⟩ = some (.string (str d))) (hr : KRd kBl w A n c l) (W : World) (i : Nat) (hb : Below w.heap.size w W) (hi : i < n) :
    Calls Tryz.prog 78 (#[.int .i64 (i : Int)] ++ #[.pointer (some ⟨g, 0, none⟩), .pointer (some ⟨g8, 0, none⟩)]) W fun e w' => e = .returned (.bool (later l d i)) ∧ Below w.heap.size w w' := by
  obtain rfl := hr.len
  have hrW := (hr.below hb).drew
  have e0 : W.drew.cell? ⟨g, 0, none⟩ = some (.slice A l.length c) := (hb.cell (p := ⟨g, 0, none⟩) hg).trans hc
  have e8 : W.drew.cell? ⟨g8, 0, none⟩ = some (.string (str d)) := (hb.cell (p := ⟨g8, 0, none⟩) hg8).trans hc8
  obtain ⟨bb, off, D, dn, dc, rfl, q0, -, -, -, -, -⟩ := hrW.blob hi
  have HL : Hid (later l d i = (!Op.bytesLess l[i].dg d && !(l[i].dg == d))) := by show _ = _; unfold later; rw [List.getElem?_eq_getElem hi]
  rw [HL.out]
  have hki : (i : Int) < (l.length : Int) := by omega
  generalize l[i].dg = x at *
  clear hr hrW hc hc8
  show Calls Tryz.prog 78 #[.int .i64 (i : Int), .pointer (some ⟨g, 0, none⟩), .pointer (some ⟨g8, 0, none⟩)] W _
  go_enter Tryz.func78, Tryz.ntmps78
  go_wp2_with fail
  go_region_law (fail)
  all_goals
    go_wp2
    go_ret
    exact ⟨rfl, hb.drew⟩
theorem later_front {l : List Bl} {d : List UInt8} {t : Nat} (h : t < bTo l d) : later l d t = false := by
  have hl : t < l.length := Nat.lt_of_lt_of_le h (bTo_le l d)
  unfold later
  rw [List.getElem?_eq_getElem hl]
  simp only
  rw [bTo_front h]
  rfl
theorem later_back {l : List Bl} (hs : Srt l) {d : List UInt8} (hn : ¬ bAt l d < l.length) {t : Nat} (h : bTo l d ≤ t) (hl : t < l.length) : later l d t = true := by
  unfold later
  rw [List.getElem?_eq_getElem hl]
  have hne : l[t].dg ≠ d := fun q => hn (bAt_lt.2 ⟨l[t], List.getElem_mem hl, q⟩)
  have hb := bTo_back hs hl h hne
  have h1 : Op.bytesLess l[t].dg d = false := by
    rw [Bool.eq_false_iff]
    intro q
    have := bl_trans hb q
    rw [bl_irrefl] at this
    cases this
  simp only
  rw [h1, show (l[t].dg == d) = false by rw [beq_eq_false_iff_ne]; exact hne]
  rfl
end Go.Proofs.YtnadgdjaldemhaaGreatDoor
/- The landed blob.Put, where it puts. -/
namespace Go.Proofs.YtnadgdjaldemhaaGreatDoor
open Go.RowKit Go.Shelf
/-- what holds behind the new blob -/
def PutR (w : World) (gL g8 : Nat) (T TL TS : TypeId) (L : Value) (dd b : List UInt8) (m : Nat) (s : Value) (wx : World) : Prop :=
  ∃ g A4 c4, s = .pointer (some ⟨g, 0, none⟩) ∧ Blk wx g T [.string (str dd), .slice A4 m c4, .int .i64 0, .bool false] ∧ kBl.deep wx ⟨dd, b, 0, false⟩ ⟨A4, m, c4⟩ ∧ (∀ k ∈ blk1 A4, w.heap.size ≤ k ∧ k < wx.heap.size) ∧ Below w.heap.size w wx ∧ Blk wx gL TL [L] ∧ Blk wx g8 TS [.string (str dd)] ∧ w.heap.size ≤ g
theorem putR_of {w W : World} {gL g8 g : Nat} {T TL TS : TypeId} {L : Value} {dd b : List UInt8} {m c4 : Nat} {A4 : Option Addr} {z0 z1 z2 z3 : Value} (hz : Blk W g T [z0, z1, z2, z3]) (hge : w.heap.size ≤ g)
    (hA : ∀ a : Addr, A4 = some a → w.heap.size ≤ a.block ∧ a.block < W.heap.size ∧ a.block ≠ g) (hr : Rd W 1 A4 m c4 (b.map bv8)) (hn : A4 = none → c4 = 0) (hb : Below w.heap.size w W) (hL : Blk W gL TL [L]) (h8 : Blk W g8 TS [.string (str dd)]) (nL : gL ≠ g) (n8 : g8 ≠ g) :
    PutR w gL g8 T TL TS L dd b m (.pointer (some ⟨g, 0, none⟩)) ((((W.setCell ⟨g, 0, none⟩ (.string (str dd))).setCell ⟨g, 1, none⟩ (.slice A4 m c4)).setCell ⟨g, 2, none⟩ (.int .i64 0)).setCell ⟨g, 3, none⟩ (.bool false)) := by
  have hk := (((hz.put 0 (.string (str dd))).put 1 (.slice A4 m c4)).put 2 (.int .i64 0)).put 3 (.bool false)
  simp only [List.set_cons_succ, List.set_cons_zero] at hk
  have far : ∀ k, k ≠ g → ((((W.setCell ⟨g, 0, none⟩ (.string (str dd))).setCell ⟨g, 1, none⟩ (.slice A4 m c4)).setCell ⟨g, 2, none⟩ (.int .i64 0)).setCell ⟨g, 3, none⟩ (.bool false)).heap[k]? = W.heap[k]? := fun k hk => by
    rw [Below.heap_setCell _ ⟨g, 3, none⟩ _ k hk, Below.heap_setCell _ ⟨g, 2, none⟩ _ k hk, Below.heap_setCell _ ⟨g, 1, none⟩ _ k hk, Below.heap_setCell _ ⟨g, 0, none⟩ _ k hk]
  refine ⟨g, A4, c4, rfl, hk, ⟨hr.keepLt fun a ha _ => far _ (hA a ha).2.2, hn⟩, fun k hk => ?_, (((hb.setCell (p := ⟨g, 0, none⟩) hge _).setCell (p := ⟨g, 1, none⟩) hge _).setCell (p := ⟨g, 2, none⟩) hge _).setCell (p := ⟨g, 3, none⟩) hge _, (far gL nL).trans hL, (far g8 n8).trans h8, hge⟩
  obtain ⟨a, ha, rfl⟩ := mem_blk1.1 hk
  obtain ⟨q1, q2, _⟩ := hA a ha
  exact ⟨q1, by simpa using q2⟩
theorem putR_new {w W : World} {gL g8 : Nat} {T TL TS : TypeId} {L : Value} {dd b : List UInt8} {m c4 : Nat} {A4 : Option Addr} (hA : ∀ a : Addr, A4 = some a → w.heap.size ≤ a.block ∧ a.block < W.heap.size) (hr : Rd W 1 A4 m c4 (b.map bv8)) (hn : A4 = none → c4 = 0) (hb : Below w.heap.size w W) (hL : Blk W gL TL [L]) (h8 : Blk W g8 TS [.string (str dd)]) :
    PutR w gL g8 T TL TS L dd b m (.pointer (some ⟨W.heap.size, 0, none⟩)) (W.alloc (.cells #[.string (str dd), .slice A4 m c4, .int .i64 0, .bool false] T)) := by
  refine ⟨W.heap.size, A4, c4, rfl, Blk.new W T _, ⟨hr.below ((Below.refl _ W).alloc (Nat.le_refl _) _), hn⟩, fun k hk => ?_, hb.alloc hb.size _, hL.alloc _, h8.alloc _, hb.size⟩
  obtain ⟨a, ha, rfl⟩ := mem_blk1.1 hk
  obtain ⟨q1, q2⟩ := hA a ha
  exact ⟨q1, by simp; omega⟩
theorem KB.rebase {w : World} {base base' g : Nat} {t : TypeId} {hs : List (Bl × Hd)} (h : KB w base g t hs) (hb : base' ≤ base) : KB w base' g t hs :=
  ⟨h.blk, Nat.le_trans hb h.ge, fun x hx => ⟨(h.deep x hx).1, fun k hk => ⟨Nat.le_trans hb ((h.deep x hx).2 k hk).1, ((h.deep x hx).2 k hk).2⟩⟩⟩
theorem deep_keep {W W' : World} {x : Bl} {A : Option Addr} {m c B : Nat} (hb : Below W.heap.size W W') (hd : kBl.deep W x ⟨A, m, c⟩) (hl : ∀ k ∈ blk1 A, B ≤ k ∧ k < W.heap.size) : kBl.deep W' x ⟨A, m, c⟩ ∧ ∀ k ∈ kBl.blocks ⟨A, m, c⟩, B ≤ k ∧ k < W'.heap.size :=
  ⟨kBl.keep hd fun k _ hk => hb.block k hk, fun k hk => ⟨(hl k hk).1, Nat.lt_of_lt_of_le (hl k hk).2 hb.size⟩⟩
/-- the cells that the last statement loads -/
theorem putS {W : World} {gL g8 g : Nat} {T TL TS : TypeId} {L : Value} {dd : List UInt8} {V : Value} (hL : Blk W gL TL [L]) (h8 : Blk W g8 TS [.string (str dd)]) (hg : Blk W g T [.string (str dd), V, .int .i64 0, .bool false]) :
    W.cell? ⟨gL, 0, none⟩ = some L ∧ W.cell? ⟨g8, 0, none⟩ = some (.string (str dd)) ∧ W.cell? ⟨g, 0, none⟩ = some (.string (str dd)) ∧ W.cell? ⟨g, 1, none⟩ = some V ∧ W.cell? ⟨g, 2, none⟩ = some (.int .i64 0) ∧ W.cell? ⟨g, 3, none⟩ = some (.bool false) :=
  ⟨hL.cell 0, h8.cell 0, hg.cell 0, hg.cell 1, hg.cell 2, hg.cell 3⟩
theorem insert_any (w : World) (base g g2 : Nat) (hs : List (Bl × Hd)) (x : Bl × Hd) (L i : Nat) (OL : List Bl) (hO : (hs.take i ++ x :: hs.drop i).map Prod.fst = OL) (hL : hs.length = L) (hL23 : L ≤ 23) (hi : i ≤ L) (hB : base ≤ w.heap.size) (h : KB w base g 51 hs) (h2 : Blk w g2 51 (kBl.cells x.1 x.2))
    (hx : kBl.deep w x.1 x.2 ∧ ∀ k ∈ kBl.blocks x.2, base ≤ k ∧ k < w.heap.size) :
    Calls Tryz.prog 79 #[.slice (some ⟨g, 0, none⟩) L L, .int .i64 (i : Int), .slice (some ⟨g2, 0, none⟩) 1 1] w fun e w' => ∃ v, e = .returned v ∧ KOwn kBl w' base 51 v OL ∧ Below w.heap.size w w' := by
  rw [← hO]
  rcases Nat.lt_or_eq_of_le hi with q | q
  · exact insert_mid w base g g2 hs x L i hL hL23 q hB h h2 hx
  · subst q
    exact insert_end w base g g2 hs x _ hL hL23 hB h h2 hx
set_option maxRecDepth 100000 in
set_option maxHeartbeats 4000000 in
theorem put_new (A : Option Addr) (n c : Nat) (l : List Bl) (B : Option Addr) (m d : Nat) (b : List UInt8) (w : World) (hK : Kon w) (hr : KRd kBl w A n c l) (hg : ∀ p ∈ l, p.good) (hb : Rd w 1 B m d (b.map bv8)) (he : bsErr l = 0) (hm : m ≤ 300) (ha : ¬ bAt l (dig b) < l.length) (h23 : l.length ≤ 23) :
    Calls Tryz.prog 45 #[.slice A n c, .slice B m d] w (GivesPut (l.take (bTo l (dig b)) ++ ⟨dig b, b, 0, false⟩ :: l.drop (bTo l (dig b))) (dig b) 0 w) := by
  have HE := Lib.hid he
  obtain ⟨-, -, hsr⟩ := bsErr_zero.1 he
  obtain rfl := hr.len
  generalize hdd : dig b = dd at *
  have HD := Lib.hid hdd
  have HF : Hid (fErr l dd = 5) := by show _ = _; unfold fErr; rw [if_neg ha]
  have HG := Lib.hid hg
  obtain ⟨T, hT⟩ : ∃ T, bTo l dd = T := ⟨_, rfl⟩
  have hTl : T ≤ l.length := by rw [← hT]; exact bTo_le l dd
  have HS1 : Hid (∀ t, t < T → later l dd t = false) := fun t ht => later_front (by rw [hT]; exact ht)
  have HS2 : Hid (∀ t, T ≤ t → t < l.length → later l dd t = true) := fun t h1 h2 => later_back hsr ha (by rw [hT]; exact h1) h2
  rw [hT]
  have hn24 : ¬ l.length = 24 := by omega
  have hn24' : ((l.length : Int) == 24) = false := by rw [beq_eq_false_iff_ne]; omega
  have hsz56 : l.length * 56 ≤ 140737488351232 := by omega
  have hmz : m ≤ 140737488351232 := by omega
  have hal := (Below.refl w.heap.size w).alloc (Nat.le_refl _) (.cells #[.slice A l.length c] 25)
  have hr1 := hr.below hal
  have hK1 := hK.below hal
  have hk0 := Blk.new w 25 [.slice A l.length c]
  have e0 := hk0.cell 0
  simp only [List.getElem?_cons_zero] at e0
  clear he ha hdd hg hsr hT
  obtain ⟨gL, hgL⟩ : ∃ g, w.heap.size = g := ⟨_, rfl⟩
  rw [hgL] at hk0 e0
  have hgeL : w.heap.size ≤ gL := by omega
  go_enter Tryz.func45, Tryz.ntmps45
  go_wp2_with fail
  with_reducible refine (bcheck_any _ _ _ _ _ hK1 hr1 HG.out).mono ?_
  rw [HE.out]
  rintro e w1 ⟨rfl, hb1⟩
  have hbA := below_step hal hb1
  have hk1 := hk0.below hb1 hk0.lt
  clear e0 hb1 hk0 hr1 hK1
  go_wp2_with fail
  with_reducible refine (digestOf_ok _ _ _ b _ (hK.below hbA) (hb.below hbA) hm).mono ?_
  rw [HD.out]
  rintro e w2 ⟨rfl, hb2⟩
  have hbB := below_step hbA hb2
  have hk2 := hk1.below hb2 hk1.lt
  have hal2 := (Below.refl w2.heap.size w2).alloc (Nat.le_refl _) (.cells #[.string (str dd)] 9)
  have hk3 := hk2.below hal2 hk2.lt
  have hs3 := Blk.new w2 9 [.string (str dd)]
  have hbC := below_step hbB hal2
  have hr3 := hr.below hbC
  have e0 := hk3.cell 0
  have e8 := hs3.cell 0
  simp only [List.getElem?_cons_zero] at e0 e8
  obtain ⟨g8, hg8⟩ : ∃ g, w2.heap.size = g := ⟨_, rfl⟩
  have hge8 : w.heap.size ≤ g8 := by rw [← hg8]; exact hbB.size
  rw [hg8] at hs3 e8
  clear hbA hk1 hb2 hbB hk2 hal2 hal
  go_wp2_with fail
  with_reducible refine (find_any _ _ _ _ _ _ hr3).mono ?_
  rw [HF.out]
  rintro e w4 ⟨rfl, hb4⟩
  have hbD := below_step hbC hb4
  have hk4 := hk3.below hb4 hk3.lt
  have hs4 := hs3.below hb4 hs3.lt
  clear e0 e8 hk3 hs3 hbC hr3 hb4 hg8
  have e0 := hk4.cell 0
  have e8 := hs4.cell 0
  simp only [List.getElem?_cons_zero] at e0 e8
  have hr4 := hr.below hbD
  have hSr := search_any l.length 78 #[.pointer (some ⟨gL, 0, none⟩), .pointer (some ⟨g8, 0, none⟩)] (later l dd) w4 (enters_of Tryz.func78 (by kernel_rfl) rfl) (by omega) (fun W i hW hi => put1_tells A _ c l dd gL g8 w4 hk4.lt hs4.lt e0 e8 hr4 W i hW hi) T hTl HS1.out HS2.out
  have HSr := Lib.hid hSr
  clear hSr
  go_wp2_with fail
  with_reducible refine HSr.out.mono ?_
  rintro e w5 ⟨rfl, hb5⟩
  have hbE := below_step hbD hb5
  have hk5 := hk4.below hb5 hk4.lt
  have hs5 := hs4.below hb5 hs4.lt
  clear e0 e8 hk4 hs4 hbD hr4 hb5 HSr HS1 HS2
  go_upto_region 13 with fail
  go_cut [13] from 45 to 48 (fun s13 wx => PutR w gL g8 51 25 9 (.slice A l.length c) dd b m s13 wx)
  case first =>
    have s0 := hs5.drew.cell 0
    have s1 := (hs5.alloc (.cells #[.string ⟨#[]⟩, .slice none 0 0, .int .i64 0, .bool false] 51)).drew.cell 0
    simp only [List.getElem?_cons_zero] at s0 s1
    have hb5d := hb.below hbE.drew
    have bU1 := (hbE.alloc hbE.size (.cells #[.string ⟨#[]⟩, .slice none 0 0, .int .i64 0, .bool false] 51)).drew
    have hb5a := hb.below bU1
    have hs5a := (hs5.alloc (.cells #[.string ⟨#[]⟩, .slice none 0 0, .int .i64 0, .bool false] 51)).drew
    have hk5a := (hk5.alloc (.cells #[.string ⟨#[]⟩, .slice none 0 0, .int .i64 0, .bool false] 51)).drew
    have z5 := (Blk.new w5 51 [.string ⟨#[]⟩, .slice none 0 0, .int .i64 0, .bool false]).drew
    go_region_held_law (fun W => W.cell? ⟨g8, 0, none⟩ = some (.string (str dd))) (first | with_reducible exact s0 | with_reducible exact s1 | with_reducible exact s2 | with_reducible exact s3 | with_reducible exact s4 | go_keep)
      (first
        | (go_at_call 60; (with_reducible refine (bclone_any _ _ _ b _ hb5d hmz).mono ?_); rintro e w6 ⟨v6, rfl, hown6, hb6⟩; have hl6 := Lib.hid hown6.lt; obtain ⟨A6, c6, rfl, hr6, hA6, hF6⟩ := own_rdF hown6; have hs6 := hs5.drew.below hb6 hs5.drew.lt; have hk6 := hk5.drew.below hb6 hk5.drew.lt; have hbF := below_step hbE.drew hb6; have hAf : ∀ a : Addr, A6 = some a → w.heap.size ≤ a.block ∧ a.block < w6.heap.size := (fun a ha => ⟨Nat.le_trans hbE.size (hF6 a ha), (hl6.out a.block (by rw [ha]; rfl)).2⟩); have s2 := hs6.cell 0; have s3 := (hs6.alloc (.cells #[.string ⟨#[]⟩, .slice none 0 0, .int .i64 0, .bool false] 51)).cell 0; have l8 : g8 ≠ w6.heap.size := (fun q => by have := hs6.lt; omega); have s4 := (((((hs6.alloc (.cells #[.string ⟨#[]⟩, .slice none 0 0, .int .i64 0, .bool false] 51)).far (p := ⟨w6.heap.size, 0, none⟩) l8 (.string (str dd))).far (p := ⟨w6.heap.size, 1, none⟩) l8 (.slice A6 m c6)).far (p := ⟨w6.heap.size, 2, none⟩) l8 (.int .i64 0)).far (p := ⟨w6.heap.size, 3, none⟩) l8 (.bool false)).cell 0; simp only [List.getElem?_cons_zero] at s2 s3 s4; have na0 := True.intro)
        | (go_at_call 60; (with_reducible refine (bclone_any _ _ _ b _ hb5a hmz).mono ?_); rintro e w6 ⟨v6, rfl, hown6, hb6⟩; have hl6 := Lib.hid hown6.lt; obtain ⟨A6, c6, rfl, hr6, hA6, hF6⟩ := own_rdF hown6; have hs6 := hs5a.below hb6 hs5a.lt; have hk6 := hk5a.below hb6 hk5a.lt; have z6 := z5.below hb6 z5.lt; have hbF := below_step bU1 hb6; have hAf2 : ∀ a : Addr, A6 = some a → w.heap.size ≤ a.block ∧ a.block < w6.heap.size ∧ a.block ≠ w5.heap.size := (fun a ha => by have q1 := hF6 a ha; have q2 := (hl6.out a.block (by rw [ha]; rfl)).2; have q3 := hbE.size; have q4 : (w5.alloc (.cells #[.string ⟨#[]⟩, .slice none 0 0, .int .i64 0, .bool false] 51)).drew.heap.size = w5.heap.size + 1 := (by simp); exact ⟨by omega, q2, by omega⟩); have nL : gL ≠ w5.heap.size := (fun q => by have := hk5.lt; omega); have s2 := hs6.cell 0; have l8 : g8 ≠ w5.heap.size := (fun q => by have := hs5.lt; omega); have s4 := ((((hs6.far (p := ⟨w5.heap.size, 0, none⟩) l8 (.string (str dd))).far (p := ⟨w5.heap.size, 1, none⟩) l8 (.slice A6 m c6)).far (p := ⟨w5.heap.size, 2, none⟩) l8 (.int .i64 0)).far (p := ⟨w5.heap.size, 3, none⟩) l8 (.bool false)).cell 0; simp only [List.getElem?_cons_zero] at s2 s4; have f0 := z6.cell 0; have f1 := z6.cell 1; have f2 := z6.cell 2; have f3 := z6.cell 3; simp only [List.getElem?_cons_succ, List.getElem?_cons_zero] at f0 f1 f2 f3; have g0 := z6.frozen 0; have g1 := z6.frozen 1; have g2 := z6.frozen 2; have g3 := z6.frozen 3; have na1 := True.intro))
    all_goals
      go_wp2_with fail
      go_meet
      first
        | with_reducible exact putR_new hAf hr6 hA6 hbF hk6 hs6
        | with_reducible exact putR_of z6 hbE.size hAf2 hr6 hA6 hbF hk6 hs6 nL l8
  case rest =>
    obtain ⟨g13, A4, c4, rfl, hz, hdp, hbl, hbF, hkL, hk8, hge13⟩ := hcut
    have hmapO : ∀ hs : List (Bl × Hd), hs.map Prod.fst = l → (hs.take T ++ ((⟨dd, b, 0, false⟩ : Bl), (⟨A4, m, c4⟩ : Hd)) :: hs.drop T).map Prod.fst = l.take T ++ ⟨dd, b, 0, false⟩ :: l.drop T := fun hs q => by
      rw [List.map_append, List.map_cons, List.map_take, List.map_drop, q]
    have HMO := Lib.hid hmapO
    generalize l.take T ++ (⟨dd, b, 0, false⟩ : Bl) :: l.drop T = OL at *
    have hal := hbF.drew
    have hba := (hbF.alloc hbF.size (.cells #[.string (str dd), .slice A4 m c4, .int .i64 0, .bool false] 51)).drew
    have rC1 := hr.below hal
    have rC2 := hr.below hba
    have kA := hkL.drew
    have kB8 := hk8.drew
    have kZ := hz.drew
    have aA := (hkL.alloc (.cells #[.string (str dd), .slice A4 m c4, .int .i64 0, .bool false] 51)).drew
    have aB8 := (hk8.alloc (.cells #[.string (str dd), .slice A4 m c4, .int .i64 0, .bool false] 51)).drew
    have aZ := (hz.alloc (.cells #[.string (str dd), .slice A4 m c4, .int .i64 0, .bool false] 51)).drew
    have aR := (Blk.new wc 51 [.string (str dd), .slice A4 m c4, .int .i64 0, .bool false]).drew
    clear hK hb hbE hk5 hs5 hmapO hgL
    go_wp2_with fail
    go_region_held_law (fun W => W.cell? ⟨gL, 0, none⟩ = some (.slice A l.length c) ∧ W.cell? ⟨g8, 0, none⟩ = some (.string (str dd)) ∧ W.cell? ⟨g13, 0, none⟩ = some (.string (str dd)) ∧ W.cell? ⟨g13, 1, none⟩ = some (.slice A4 m c4) ∧ W.cell? ⟨g13, 2, none⟩ = some (.int .i64 0) ∧ W.cell? ⟨g13, 3, none⟩ = some (.bool false))
      (first | with_reducible exact putS kA kB8 kZ | with_reducible exact putS aA aB8 aZ | with_reducible exact putS k7 k78 k7Z | with_reducible exact putS (k7.alloc _) (k78.alloc _) (k7Z.alloc _) | with_reducible exact putS k9 k98 k9Z | go_keep)
      (first
        | (go_at_call 52; (with_reducible refine (bcopy_any _ _ _ _ _ rC1 HG.out hsz56).mono ?_); rintro e w7 ⟨g7, hs7, rfl, hmap7, hkb7, hb7⟩; have k7 := kA.below hb7 kA.lt; have k78 := kB8.below hb7 kB8.lt; have k7Z := kZ.below hb7 kZ.lt; have hlen7 : hs7.length = l.length := (by rw [← hmap7, List.length_map]); have hbG := below_step hal hb7; have hbI := hbG.alloc hbG.size (.cells #[.string (str dd), .slice A4 m c4, .int .i64 0, .bool false] 51); have hbJ := below_step (below_step (Below.refl wc.heap.size wc).drew hb7) ((Below.refl w7.heap.size w7).alloc (Nat.le_refl _) (.cells #[.string (str dd), .slice A4 m c4, .int .i64 0, .bool false] 51)); have HI := Lib.hid (insert_any (w7.alloc (.cells #[.string (str dd), .slice A4 m c4, .int .i64 0, .bool false] 51)) w.heap.size g7 w7.heap.size hs7 (⟨dd, b, 0, false⟩, ⟨A4, m, c4⟩) l.length T OL (HMO.out hs7 hmap7) hlen7 h23 hTl hbI.size ((hkb7.rebase hal.size).below ((Below.refl w7.heap.size w7).alloc (Nat.le_refl _) (.cells #[.string (str dd), .slice A4 m c4, .int .i64 0, .bool false] 51))) (Blk.new w7 51 [.string (str dd), .slice A4 m c4, .int .i64 0, .bool false]) (deep_keep hbJ hdp hbl)); have q7 := k7.alloc (.cells #[.string (str dd), .slice A4 m c4, .int .i64 0, .bool false] 51); have q78 := k78.alloc (.cells #[.string (str dd), .slice A4 m c4, .int .i64 0, .bool false] 51); have q7Z := k7Z.alloc (.cells #[.string (str dd), .slice A4 m c4, .int .i64 0, .bool false] 51))
        | (go_at_call 52; (with_reducible refine (bcopy_any _ _ _ _ _ rC2 HG.out hsz56).mono ?_); rintro e w7 ⟨g7, hs7, rfl, hmap7, hkb7, hb7⟩; have k7 := aA.below hb7 aA.lt; have k78 := aB8.below hb7 aB8.lt; have k7Z := aZ.below hb7 aZ.lt; have k7R := aR.below hb7 aR.lt; have hlen7 : hs7.length = l.length := (by rw [← hmap7, List.length_map]); have hbI := below_step hba hb7; have hbJ := below_step ((Below.refl wc.heap.size wc).alloc (Nat.le_refl _) (.cells #[.string (str dd), .slice A4 m c4, .int .i64 0, .bool false] 51)).drew hb7; have HI := Lib.hid (insert_any w7 w.heap.size g7 wc.heap.size hs7 (⟨dd, b, 0, false⟩, ⟨A4, m, c4⟩) l.length T OL (HMO.out hs7 hmap7) hlen7 h23 hTl hbI.size (hkb7.rebase hba.size) k7R (deep_keep hbJ hdp hbl)); have q7 := k7; have q78 := k78; have q7Z := k7Z)
        | (go_at_call 79; have hI := HI.out; (with_reducible refine hI.mono ?_); rintro e w9 ⟨v9, rfl, hown9, hb9⟩; obtain ⟨A9, c9, rfl, hN9⟩ := hown9.new; have k9 := q7.below hb9 q7.lt; have k98 := q78.below hb9 q78.lt; have k9Z := q7Z.below hb9 q7Z.lt; have hbK := below_step hbI hb9))
    all_goals
      go_wp2
      go_ret3
      exact ⟨_, _, _, rfl, hN9, hbK⟩
end Go.Proofs.YtnadgdjaldemhaaGreatDoor
/- The landed blob.Put and blob.Drop, all arguments in one. -/
namespace Go.Proofs.YtnadgdjaldemhaaGreatDoor
open Go.RowKit Go.Shelf
theorem put_any (A : Option Addr) (n c : Nat) (l : List Bl) (B : Option Addr) (m d : Nat) (b : List UInt8) (w : World) (hK : Kon w) (hr : KRd kBl w A n c l) (hg : ∀ p ∈ l, p.good) (hb : Rd w 1 B m d (b.map bv8)) :
    Calls Tryz.prog 45 #[.slice A n c, .slice B m d] w (GivesPut (bPut l b).2.1 (bPut l b).2.2 (bPut l b).1 w) := by
  have hbl := hb.len
  by_cases he : bsErr l = 0
  · by_cases hm : 300 < b.length
    · have e : bPut l b = (1, [], []) := by unfold bPut; rw [if_neg (by omega), if_pos hm]
      rw [e]; exact put_big A n c l B m d b w hK hr hg hb he (by omega)
    · by_cases ha : bAt l (dig b) < l.length
      · have e : bPut l b = (0, l, dig b) := by unfold bPut; rw [if_neg (by omega), if_neg hm, if_pos ha]
        rw [e]; exact put_there A n c l B m d b w hK hr hg hb he (by omega) ha
      · by_cases h23 : 23 < l.length
        · have e : bPut l b = (7, [], []) := by unfold bPut; rw [if_neg (by omega), if_neg hm, if_neg ha, if_pos h23]
          rw [e]; exact put_full A n c l B m d b w hK hr hg hb he (by omega) ha h23
        · have e : bPut l b = (0, l.take (bTo l (dig b)) ++ ⟨dig b, b, 0, false⟩ :: l.drop (bTo l (dig b)), dig b) := by unfold bPut; rw [if_neg (by omega), if_neg hm, if_neg ha, if_neg h23]
          rw [e]; exact put_new A n c l B m d b w hK hr hg hb he (by omega) ha (by omega)
  · have e : bPut l b = (bsErr l, [], []) := by unfold bPut; rw [if_pos he]
    rw [e]; exact put_no A n c l B m d w hK hr hg _ rfl he
end Go.Proofs.YtnadgdjaldemhaaGreatDoor
