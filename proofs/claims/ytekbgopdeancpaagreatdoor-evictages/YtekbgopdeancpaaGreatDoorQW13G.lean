/- The closures of the statement EvictAges: the stamp of a key; is an entry's key among the first ones? -/
import Derived.Test.YtekbgopdeancpaaGreatDoorQKv
import Derived.Test.YtekbgopdeancpaaGreatDoorQTc
import Derived.Test.YtekbgopdeancpaaGreatDoorQDfe
import Derived.Deep.RegionHeldLaw
import Derived.Deep.CutBlock
import Derived.Deep.CutRange
namespace Go.Proofs.YtekbgopdeancpaaGreatDoor
open Go.RowKit
theorem stampOf_cons (x : En) (l : List En) (k : List UInt8) : stampOf (x :: l) k = if x.ky = k then x.st else stampOf l k := by
  unfold stampOf
  rw [List.find?_cons]
  by_cases h : x.ky = k
  · rw [if_pos h, show (x.ky == k) = true by rw [beq_iff_eq]; exact h]
    rfl
  · rw [if_neg h, show (x.ky == k) = false by rw [beq_eq_false_iff_ne]; exact h]
theorem rm_ok {s : Sto} (h : s.ok) (ks : List (List UInt8)) : ({ s with es := rmv s.es ks } : Sto).ok := by
  have hs := rmv_sub s.es ks
  obtain ⟨h1, h2, h3⟩ := xsErr_zero.1 h.xe
  exact ⟨h.be, xsErr_zero.2 ⟨Nat.le_trans hs.length_le h1, fun x hx => h2 x (hs.subset hx), List.Pairwise.sublist hs h3⟩, h.r0, h.r1, h.us, h.c0, h.c1, fun x hx => h.st x (hs.subset hx), fun x hx => h.pt x (hs.subset hx)⟩
set_option maxRecDepth 100000 in
set_option maxHeartbeats 2000000 in
theorem stamp_ok {A1 A2 : Option Addr} {n1 c1 c2 g : Nat} {M : List En} {rm ck : Int} {W : World} (key : List UInt8) (hb : Blk W g 25 [.slice A1 n1 c1, .slice A2 M.length c2, .int .i64 rm, .int .i64 ck]) (hr : KRd kEn W A2 M.length c2 M) (hm : M.length ≤ 10) :
    Calls Tryz.prog 33 #[.string (str key), .pointer (some ⟨g, 0, none⟩)] W fun e w' => e = .returned (.int .i64 (stampOf M key)) ∧ Below W.heap.size W w' := by
  obtain ⟨R, hR⟩ : ∃ R, stampOf M key = R := ⟨_, rfl⟩
  rw [hR]
  have HR := Lib.hid hR
  have hg1 : g < W.heap.size := hb.lt
  have hcap := hr.cap
  unfold maxLen at hcap
  obtain ⟨s0, s1, s2, s3⟩ := blk4 hb
  clear hR
  go_enter Tryz.func33, Tryz.ntmps33
  go_wp2
  go_loopw [9] (fun s wr => ∃ k : Nat, k ≤ M.length ∧ s = .int .i64 k ∧ Hid (stampOf (M.drop k) key = R) ∧ Below W.heap.size W wr) (fun s _ => M.length - (intOf s).toNat)
  case atStart => exact ⟨0, Nat.zero_le _, rfl, by rw [List.drop_zero]; exact HR, Below.refl _ _⟩
  case round =>
    clear HR
    obtain ⟨k, hk, rfl, HS, hbel⟩ := hrel
    by_cases hlt : k < M.length
    · obtain ⟨b, off, D, dn, dc, rfl, hc0, hc1, hc2, hc3, -, -⟩ := (hr.below hbel).entry hlt
      have hki : (k : Int) < (M.length : Int) := by omega
      have hs := HS.out
      rw [List.drop_eq_getElem_cons hlt, stampOf_cons] at hs
      generalize M[k] = x at *
      have hal2 := (Below.refl wr.heap.size wr).alloc (Nat.le_refl _) (.cells #[.string (str x.ky), .slice D dn dc, .int .i64 x.pn, .int .i64 x.st] 54)
      have v2 := Blk.new wr 54 [.string (str x.ky), .slice D dn dc, .int .i64 x.pn, .int .i64 x.st]
      have hbel2 := below_step hbel hal2
      clear s0 s1 s2 s3 HS
      by_cases hq : x.ky = key
      · rw [if_pos hq] at hs
        have HF := Lib.hid hs
        have hqe : (x.ky == key) = true := by rw [beq_iff_eq]; exact hq
        clear hs hq
        go_upto_region 4 with fail
        generalize hwu : wr.alloc (.cells [Value.string (str x.ky), .slice D dn dc, .int .i64 x.pn, .int .i64 x.st].toArray 54) = u at *
        clear hwu hc0 hc1 hc2 hc3 hal2
        obtain ⟨g0, g1, g2, g3⟩ := blk4 v2
        go_wp2
        go_ret
        first | exact ⟨ret_int HF.out, hbel2⟩ | exact ⟨ret_int HF.out.symm, hbel2⟩
      · rw [if_neg hq] at hs
        have HF := Lib.hid hs
        have hqe : (x.ky == key) = false := by rw [beq_eq_false_iff_ne]; exact hq
        clear hs hq
        go_upto_region 4 with fail
        generalize hwu : wr.alloc (.cells [Value.string (str x.ky), .slice D dn dc, .int .i64 x.pn, .int .i64 x.st].toArray 54) = u at *
        clear hwu hc0 hc1 hc2 hc3 hal2
        obtain ⟨g0, g1, g2, g3⟩ := blk4 v2
        go_wp2
        go_roundw
        case rel => exact ⟨k + 1, by omega, by go_num, HF, hbel2⟩
        case measure => simp [intOf] <;> omega
    · have hd2 : decide ((k : Int) < (M.length : Int)) = false := by rw [decide_eq_false_iff_not]; omega
      have hs := HS.out
      rw [List.drop_of_length_le (by omega)] at hs
      have HF : Hid (R = -1) := by show _ = _; rw [← hs]; rfl
      clear hs HS
      go_wp2
      go_ret
      exact ⟨ret_int HF.out.symm, hbel⟩
set_option maxRecDepth 100000 in
set_option maxHeartbeats 2000000 in
theorem first_ok {G : List (List UInt8)} {P : Option Addr} {f g gb : Nat} {w : World} (hlt : gb < w.heap.size) (hgb : gb ≠ g) (hc : w.cell? ⟨gb, 0, none⟩ = some (.slice P G.length f)) (hr : Rd w 1 P G.length f (G.map sv)) (hne : ∀ a : Addr, P = some a → a.block ≠ g) (hG : 0 < G.length) (hG2 : G.length ≤ 10) :
    ∀ (W : World) (x : En × Hd), Far g w W → Calls Tryz.prog 36 (#[.agg (kEn.cells x.1 x.2).toArray] ++ #[.pointer (some ⟨gb, 0, none⟩)]) W fun e w' => e = .returned (.bool (G.dropLast.any fun t => x.1.ky == t)) ∧ Below W.heap.size W w' := fun W x hf => by
  obtain ⟨pb, po, rfl, -⟩ := hr.text hG
  have hcW : W.cell? ⟨gb, 0, none⟩ = some (.slice (some ⟨pb, po, none⟩) G.length f) := (cell_heap (hf.block gb hlt hgb) 0).trans hc
  have hrW := hf.rd hr hne
  have hgW : gb < W.heap.size := Nat.lt_of_lt_of_le hlt hf.b.size
  obtain ⟨⟨d1, t1, p1, m1⟩, ⟨D1, n1, e1⟩⟩ := x
  show Calls Tryz.prog 36 #[.agg #[.string (str d1), .slice D1 n1 e1, .int .i64 p1, .int .i64 m1], .pointer (some ⟨gb, 0, none⟩)] W fun e w' => e = .returned (.bool (G.dropLast.any fun t => d1 == t)) ∧ _
  obtain ⟨lv, hlv⟩ : ∃ lv, (G.dropLast.any fun t => d1 == t) = lv := ⟨_, rfl⟩
  rw [hlv]
  obtain ⟨J, hJ⟩ : ∃ J, G.length = J + 1 := ⟨G.length - 1, by omega⟩
  have hal := (Below.refl W.heap.size W).alloc (Nat.le_refl _) (.cells #[.string (str d1), .slice D1 n1 e1, .int .i64 p1, .int .i64 m1] 54)
  have v1 := Blk.new W 54 [.string (str d1), .slice D1 n1 e1, .int .i64 p1, .int .i64 m1]
  have hrA := (hrW.below hal).take J (by omega)
  have hdl : G.dropLast.length = J := by rw [List.length_dropLast]; omega
  rw [← List.map_take, show G.take J = G.dropLast by rw [List.dropLast_eq_take]; congr 1; omega] at hrA
  have hwr : IntKind.i64.wrap ((G.length : Int) - 1) = (J : Int) := by rw [IntWalk.i64_in _ (by omega)]; omega
  have hcapf := hr.2.1
  have hJf : (J : Int) ≤ (f : Int) := by omega
  have hcA : (W.alloc (.cells #[.string (str d1), .slice D1 n1 e1, .int .i64 p1, .int .i64 m1] 54)).cell? ⟨gb, 0, none⟩ = some (.slice (some ⟨pb, po, none⟩) G.length f) := (hal.cell (p := ⟨gb, 0, none⟩) hgW).trans hcW
  have hga : gb < (W.alloc (.cells #[.string (str d1), .slice D1 n1 e1, .int .i64 p1, .int .i64 m1] 54)).heap.size := Nat.lt_of_lt_of_le hgW hal.size
  clear hr hrW hc hcW hf hne
  go_enter Tryz.func36, Tryz.ntmps36
  go_upto_region 1 with fail
  generalize hwu : W.alloc (.cells [Value.string (str d1), .slice D1 n1 e1, .int .i64 p1, .int .i64 m1].toArray 54) = u at *
  clear hwu
  have HC := Lib.hid (fun (V : World) (hb : Below u.heap.size u V) => containsT_any (some ⟨pb, po, none⟩) J f G.dropLast d1 V (hrA.below hb) lv (any_iff hlv))
  have b0 := (Below.refl u.heap.size u).drew
  have hS : ∀ V : World, Below u.heap.size u V → (V.cell? ⟨gb, 0, none⟩ = some (.slice (some ⟨pb, po, none⟩) G.length f) ∧ V.cell? ⟨W.heap.size, 0, none⟩ = some (.string (str d1))) := fun V hb => ⟨(hb.cell (p := ⟨gb, 0, none⟩) hga).trans hcA, (blk4 (v1.below hb v1.lt)).1⟩
  clear hrA hlv hdl hJ
  go_region_held_law (fun V => V.cell? ⟨gb, 0, none⟩ = some (.slice (some ⟨pb, po, none⟩) G.length f) ∧ V.cell? ⟨W.heap.size, 0, none⟩ = some (.string (str d1)))
    (first | with_reducible exact hS _ b0 | go_keep)
    (first | (go_at_call 24; (with_reducible refine (HC.out _ b0).mono ?_); rintro e v1 ⟨rfl, rfl⟩))
  all_goals
    go_wp2
    go_ret
    exact ⟨rfl, below_step hal b0⟩
end Go.Proofs.YtekbgopdeancpaaGreatDoor
