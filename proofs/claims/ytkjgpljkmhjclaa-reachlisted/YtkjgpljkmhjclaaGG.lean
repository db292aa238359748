/- Texts that belong together: what the functions of the program and of the statements return. -/
import Derived.Test.YtkjgpljkmhjclaaGE
import Derived.Test.YtkjgpljkmhjclaaGF
import Derived.Test.YtkjgpljkmhjclaaGA
import Derived.Test.YtkjgpljkmhjclaaRows
import Derived.Test.YtkjgpljkmhjclaaGC
import Derived.Test.YtkjgpljkmhjclaaGX
import Derived.Deep.RegionHeldLaw
import Derived.Test.YtkjgpljkmhjclaaGO
/- Parts of raw things, as a list. -/
namespace Go.Proofs.Ytkjgpljkmhjclaa
open Go.RowKit
/-- the part that comes of raw thing number i -/
def lp (i : Nat) (r : Rw) : Prt := ⟨[110, UInt8.ofNat (97 + i)], dig r.tx, pk r.ra 301⟩
def lst : Nat → List Rw → List Prt
  | _, [] => []
  | i, r :: t => lp i r :: lst (i + 1) t
/-- the parts that come of raw things: of the first eight -/
def listedP (l : List Rw) : List Prt := lst 0 (l.take 8)
theorem lst_length : ∀ (i : Nat) (l : List Rw), (lst i l).length = l.length
  | _, [] => rfl
  | i, r :: t => by rw [lst, List.length_cons, lst_length (i + 1) t, List.length_cons]
theorem lst_snoc : ∀ (i : Nat) (l : List Rw) (r : Rw), lst i (l ++ [r]) = lst i l ++ [lp (i + l.length) r]
  | _, [], _ => rfl
  | i, q :: t, r => by rw [List.cons_append, lst, lst, lst_snoc (i + 1) t r, List.length_cons, List.cons_append, show i + 1 + t.length = i + (t.length + 1) from by omega]
theorem lst_step {l : List Rw} {k : Nat} (h : k < l.length) : lst 0 (l.take (k + 1)) = lst 0 (l.take k) ++ [lp k l[k]] := by
  rw [List.take_succ_eq_append_getElem h, lst_snoc, List.length_take, show 0 + min k l.length = k from by omega]
end Go.Proofs.Ytkjgpljkmhjclaa
/- The statements' own 'listed': parts of raw things. -/
namespace Go.Proofs.Ytkjgpljkmhjclaa
open Go.RowKit
@[go_sem high] theorem fold_n : (⟨#[110]⟩ : ByteArray) = str [110] := rfl
set_option maxRecDepth 100000 in
set_option maxHeartbeats 40000000 in
theorem listed_any (A : Option Addr) (n c : Nat) (l : List Rw) (w : World) (hr : Rd w 4 A n c (rcs l)) (hg : ∀ p ∈ l, p.good) (hn : n ≤ 4294967296000) :
    Calls Try.prog 16 #[.slice A n c] w fun e w' => ∃ v, e = .returned v ∧ w'.ownsRow w.heap.size 44 3 v (listedP l).length (pcs (listedP l)) ∧ Below w.heap.size w w' := by
  obtain rfl := hr.rlen
  obtain ⟨i0, hi0, hz0, hz1, hz2⟩ := info_parts part_info
  have HG := Lib.hid hg
  obtain ⟨xs, hxs⟩ : ∃ xs, Hid (xs = pcs (listedP l)) := ⟨_, rfl⟩
  rw [← hxs.out, show (listedP l).length = min l.length 8 by unfold listedP; rw [lst_length, List.length_take]; omega]
  obtain ⟨N, hN⟩ : ∃ N, Hid (N = min l.length 8) := ⟨_, rfl⟩
  rw [← hN.out]
  clear hg
  go_enter Try.func16, Try.ntmps16
  go_wp2
  go_loopw [3, 4, 5, 8] (fun v _ _ i wr => ∃ (k : Nat), k ≤ l.length ∧ i = .int .i64 k ∧ wr.ownsRow w.heap.size 44 3 v (min k 8) (pcs (lst 0 (l.take (min k 8)))) ∧ Below w.heap.size w wr) (fun _ _ _ i _ => l.length - (intOf i).toNat)
  case atStart => exact ⟨0, Nat.zero_le _, rfl, World.ownsRow_nil _ _ _ _, Below.refl _ _⟩
  case round =>
    obtain ⟨k, hk, rfl, hown, hbel⟩ := hrel
    by_cases hlt : k < l.length
    · obtain ⟨b, off, rfl, a0, a1, a2, a3⟩ := (hr.below hbel).raw hlt
      obtain ⟨g0, g1, g2, g3⟩ := HG.out l[k] (List.getElem_mem hlt)
      have hki : (k : Int) < (l.length : Int) := by omega
      have HS := Lib.hid (lst_step hlt)
      generalize l[k] = r at *
      obtain ⟨kd, ra, rb, tx⟩ := r
      simp only at a0 a1 a2 a3 g0 g1 g2 g3
      obtain ⟨ra0, ra1⟩ := i64_range g1
      have hal := (Below.refl wr.heap.size wr).alloc (Nat.le_refl _) (.cells #[.int .i64 kd, .int .i64 ra, .int .i64 rb, .string (str tx)] 39)
      have hbk := Blk.new wr 39 [.int .i64 kd, .int .i64 ra, .int .i64 rb, .string (str tx)]
      have hownA := own_alloc hown (.cells #[.int .i64 kd, .int .i64 ra, .int .i64 rb, .string (str tx)] 39)
      have hbelA := below_step hbel hal
      by_cases h8 : k < 8
      · have hd8 : decide ((k : Int) < 8) = true := by simp; omega
        go_wp2_with fail
        have c1 : (wr.alloc (.cells #[.int .i64 kd, .int .i64 ra, .int .i64 rb, .string (str tx)] 39)).cell? ⟨wr.heap.size, 1, none⟩ = some (.int .i64 ra) := hbk.cell 1
        have c3 : (wr.alloc (.cells #[.int .i64 kd, .int .i64 ra, .int .i64 rb, .string (str tx)] 39)).cell? ⟨wr.heap.size, 3, none⟩ = some (.string (str tx)) := hbk.cell 3
        have hglt := hbk.lt
        rw [show min k 8 = k from by omega] at hownA
        have hob : u3.ownBlock ≠ some wr.heap.size := fun q => by have := (hown.lt _ q).2; omega
        clear a0 a1 a2 a3 hal hbk hown
        generalize wr.alloc (.cells #[.int .i64 kd, .int .i64 ra, .int .i64 rb, .string (str tx)] 39) = u at *
        generalize wr.heap.size = g at *
        obtain ⟨cp, nx, hB, hD, hN1, hN2⟩ : ∃ (cp : World → Nat) (nx : World → World), (∀ W : World, (convert 9 22 (.string (str tx))).run Try.prog W = .ok (.slice (some ⟨W.heap.size, 0, none⟩) tx.length (cp W)) (nx W)) ∧ (∀ W : World, Rd (nx W) 1 (some ⟨W.heap.size, 0, none⟩) tx.length (cp W) (tx.map bv8)) ∧ (∀ W : World, Below W.heap.size W (nx W)) ∧ (∀ W : World, (nx W).heap.size = W.heap.size + 1) := by
          have h := fun W : World => run_str_bytes (P := Try.prog) Try.underlying9 Try.underlying22 Try.underlying5 W tx (by unfold maxLen; omega)
          refine ⟨fun W => (h W).choose, fun W => (h W).choose_spec.choose, fun W => (h W).choose_spec.choose_spec.1, fun W => (h W).choose_spec.choose_spec.2.1, fun W => (h W).choose_spec.choose_spec.2.2.1, fun W => (h W).choose_spec.choose_spec.2.2.2⟩
        obtain ⟨y, hy⟩ : ∃ y, Hid (y = UInt8.ofNat (97 + k)) := ⟨_, rfl⟩
        have hrow : ∀ W : World, Rd (W.alloc (.cells #[.int .u8 (97 + (k : Int))] 5)) 1 (some ⟨W.heap.size, 0, none⟩) 1 1 (([y] : List UInt8).map bv8) := fun W => by
          have h1 : (.int .u8 (97 + (k : Int)) : Value) = bv8 (y) := by
            unfold bv8; rw [hy.out, y8_ofNat (97 + k) (by omega)]; congr 1
          rw [h1]
          exact blk_rd (Blk.new W 5 [bv8 (y)]) rfl (by omega)
        have cvt := fun (W : World) (R : Nat) (h : Rd W 1 (some ⟨R, 0, none⟩) 1 1 (([y] : List UInt8).map bv8)) => run_bytes_str (P := Try.prog) Try.underlying22 Try.underlying5 Try.underlying9 (l := [y]) h
        have CV : Hid (∀ (W : World) (R : Nat), Rd W 1 (some ⟨R, 0, none⟩) 1 1 (([y] : List UInt8).map bv8) → (convert 22 9 (.slice (some ⟨R, 0, none⟩) 1 1)).run Try.prog W = .ok (.string (str [y])) W) := fun W R h => cvt W R h
        have hs1 : (nx u.drew).heap.size = u.heap.size + 1 := hN2 u.drew
        have q1 := CV.out _ _ (hrow u.drew)
        have q1' : (convert 22 9 (.slice (some ⟨u.heap.size, 0, none⟩) 1 1)).run Try.prog ((u.alloc (.cells #[.int .u8 (97 + (k : Int))] 5)).drew) = .ok (.string (str [y])) ((u.alloc (.cells #[.int .u8 (97 + (k : Int))] 5)).drew) := q1
        have rwX2 : Rd (nx ((u.alloc (.cells #[.int .u8 (97 + (k : Int))] 5)).drew)) 1 (some ⟨u.heap.size, 0, none⟩) 1 1 (([y] : List UInt8).map bv8) := (hrow u.drew).below (hN1 _)
        have q2 := CV.out _ _ rwX2
        have rwY2 : Rd ((nx u.drew).alloc (.cells #[.int .u8 (97 + (k : Int))] 5)) 1 (some ⟨u.heap.size + 1, 0, none⟩) 1 1 (([y] : List UInt8).map bv8) := by rw [← hs1]; exact hrow _
        have q4 := CV.out _ _ rwY2
        have b1 := hB u.drew
        have b1' : (convert 9 22 (.string (str tx))).run Try.prog u.drew = .ok (.slice (some ⟨u.heap.size, 0, none⟩) tx.length (cp u.drew)) (nx u.drew) := b1
        have b2' : (convert 9 22 (.string (str tx))).run Try.prog ((u.alloc (.cells #[.int .u8 (97 + (k : Int))] 5)).drew) = .ok (.slice (some ⟨u.heap.size + 1, 0, none⟩) tx.length (cp ((u.alloc (.cells #[.int .u8 (97 + (k : Int))] 5)).drew))) (nx ((u.alloc (.cells #[.int .u8 (97 + (k : Int))] 5)).drew)) := by
          have := hB ((u.alloc (.cells #[.int .u8 (97 + (k : Int))] 5)).drew)
          simpa using this
        have rdX2 : Rd (nx ((u.alloc (.cells #[.int .u8 (97 + (k : Int))] 5)).drew)) 1 (some ⟨u.heap.size + 1, 0, none⟩) tx.length (cp ((u.alloc (.cells #[.int .u8 (97 + (k : Int))] 5)).drew)) (tx.map bv8) := by
          have := hD ((u.alloc (.cells #[.int .u8 (97 + (k : Int))] 5)).drew)
          simpa using this
        have rdY1 : Rd (nx u.drew) 1 (some ⟨u.heap.size, 0, none⟩) tx.length (cp u.drew) (tx.map bv8) := hD u.drew
        have alY : Below (nx u.drew).heap.size (nx u.drew) ((nx u.drew).alloc (.cells #[.int .u8 (97 + (k : Int))] 5)) := (Below.refl _ _).alloc (Nat.le_refl _) _
        have rdY2 := rdY1.below alY
        have blX2 : Below u.heap.size u (nx ((u.alloc (.cells #[.int .u8 (97 + (k : Int))] 5)).drew)) := (((Below.refl u.heap.size u).drew).alloc (Nat.le_refl _) (.cells #[.int .u8 (97 + (k : Int))] 5)).trans ((hN1 ((u.alloc (.cells #[.int .u8 (97 + (k : Int))] 5)).drew)).mono (by simp))
        have blY1 : Below u.heap.size u (nx u.drew) := ((Below.refl u.heap.size u).drew).trans (hN1 u.drew)
        have blY2 : Below u.heap.size u ((nx u.drew).alloc (.cells #[.int .u8 (97 + (k : Int))] 5)) := blY1.trans (alY.mono (by omega))
        have owX2 := own_below hownA blX2
        have owY1 := own_below hownA blY1
        have owY2 := own_below hownA blY2
        have kX2a := (blX2.cell (p := ⟨g, 1, none⟩) hglt).trans c1
        have kX2b := (blX2.cell (p := ⟨g, 3, none⟩) hglt).trans c3
        have kY1a := (blY1.cell (p := ⟨g, 1, none⟩) hglt).trans c1
        have kY1b := (blY1.cell (p := ⟨g, 3, none⟩) hglt).trans c3
        have kY2a := (blY2.cell (p := ⟨g, 1, none⟩) hglt).trans c1
        have kY2b := (blY2.cell (p := ⟨g, 3, none⟩) hglt).trans c3
        have HROW := Lib.hid hrow
        have HFIN : Hid (∀ (W : World) (v : Value), W.ownsRow w.heap.size 44 3 v (k + 1) (pcs (lst 0 (l.take k)) ++ [.string (str [110, y]), .string (str (dig tx)), .int .i64 (pk ra 301)]) → W.ownsRow w.heap.size 44 3 v (min (k + 1) 8) (pcs (lst 0 (l.take (min (k + 1) 8))))) := fun W v h => by
          rw [show min (k + 1) 8 = k + 1 from by omega, HS.out, pcs_append]
          have e : pcs [lp k ⟨kd, ra, rb, tx⟩] = [.string (str [110, y]), .string (str (dig tx)), .int .i64 (pk ra 301)] := by
            unfold lp pcs Prt.cells; rw [hy.out]; rfl
          rw [e]; exact h
        have hw97 : IntKind.i64.wrap (97 + (k : Int)) = 97 + (k : Int) := IntWalk.i64_in _ (by omega)
        have hu97 : IntKind.u8.wrap (97 + (k : Int)) = 97 + (k : Int) := by rw [IntKind.wrap_u8]; omega
        clear hB hD hN1 hN2 cvt q1 b1 hrow
        go_region_held_law (fun W => W.cell? ⟨g, 1, none⟩ = some (.int .i64 ra) ∧ W.cell? ⟨g, 3, none⟩ = some (.string (str tx))) (first | exact ⟨c1, c3⟩ | exact ⟨kX2a, kX2b⟩ | exact ⟨kY1a, kY1b⟩ | exact ⟨kY2a, kY2b⟩ | exact ⟨k6a, k6b⟩ | exact ⟨k5a, k5b⟩ | go_keep)
          (first
            | (go_at_call 28; with_reducible refine (picked_any ra 301 _ ra0 ra1 (by omega) (by omega)).mono ?_; rintro e w' ⟨rfl, rfl⟩)
            | (go_at_call 18; with_reducible refine (digest_ok _ _ _ tx _ rdX2 g3).mono ?_; rintro e w5 ⟨rfl, hb5⟩; have bl5 := below_step blX2 hb5; have bs5 := (below_step hbelA bl5).size; have hg5 : g < w5.heap.size := Nat.lt_of_lt_of_le hglt bl5.size; have al5 := (Below.refl w5.heap.size w5).alloc (Nat.le_refl _) (.cells #[.int .u8 (97 + (k : Int))] 5); have ow5 := own_below owX2 hb5; have k5a := (bl5.cell (p := ⟨g, 1, none⟩) hglt).trans c1; have k5b := (bl5.cell (p := ⟨g, 3, none⟩) hglt).trans c3; have q3 := CV.out _ _ (rwX2.below hb5); have q6 := CV.out _ _ (HROW.out w5))
            | (go_at_call 18; with_reducible refine (digest_ok _ _ _ tx _ rdY2 g3).mono ?_; rintro e w5 ⟨rfl, hb5⟩; have bl5 := below_step blY2 hb5; have bs5 := (below_step hbelA bl5).size; have hg5 : g < w5.heap.size := Nat.lt_of_lt_of_le hglt bl5.size; have al5 := (Below.refl w5.heap.size w5).alloc (Nat.le_refl _) (.cells #[.int .u8 (97 + (k : Int))] 5); have ow5 := own_below owY2 hb5; have k5a := (bl5.cell (p := ⟨g, 1, none⟩) hglt).trans c1; have k5b := (bl5.cell (p := ⟨g, 3, none⟩) hglt).trans c3; have q3 := CV.out _ _ (rwY2.below hb5); have q6 := CV.out _ _ (HROW.out w5))
            | (go_at_call 18; with_reducible refine (digest_ok _ _ _ tx _ rdY1 g3).mono ?_; rintro e w5 ⟨rfl, hb5⟩; have bl5 := below_step blY1 hb5; have bs5 := (below_step hbelA bl5).size; have hg5 : g < w5.heap.size := Nat.lt_of_lt_of_le hglt bl5.size; have al5 := (Below.refl w5.heap.size w5).alloc (Nat.le_refl _) (.cells #[.int .u8 (97 + (k : Int))] 5); have ow5 := own_below owY1 hb5; have k5a := (bl5.cell (p := ⟨g, 1, none⟩) hglt).trans c1; have k5b := (bl5.cell (p := ⟨g, 3, none⟩) hglt).trans c3; have q6 := CV.out _ _ (HROW.out w5))
            | (refine step_append1 (by rfl) (.tmp 15) (.tmp 30) _ (by rfl) Try.underlying40 hi0 hz0 hz1 hz2 rfl (by omega) u3 _ _ (by rfl) ow5 [.string (str [110, y]), .string (str (dig tx)), .int .i64 (pk ra 301)] rfl (by simp [Value.oneCell']) (by first | rfl | simp [Act.eval]) (by omega) (by unfold maxLen; omega) (by first | exact bs5 | exact Nat.le_succ_of_le bs5 | (simp; omega)) ?_; rintro v5 w6 ⟨hown6, hb6, hsz6, hfar6⟩; have h6 := (hfar6 g hg5 hob).2; have k6a := (cell_heap h6 1).trans k5a; have k6b := (cell_heap h6 3).trans k5b; have bb6 := (below_step hbelA bl5).trans hb6)
            | (refine step_append1 (by rfl) (.tmp 15) (.tmp 30) _ (by rfl) Try.underlying40 hi0 hz0 hz1 hz2 rfl (by omega) u3 _ _ (by rfl) (own_alloc ow5 (.cells #[.int .u8 (97 + (k : Int))] 5)) [.string (str [110, y]), .string (str (dig tx)), .int .i64 (pk ra 301)] rfl (by simp [Value.oneCell']) (by first | rfl | simp [Act.eval]) (by omega) (by unfold maxLen; omega) (by first | exact bs5 | exact Nat.le_succ_of_le bs5 | (simp; omega)) ?_; rintro v5 w6 ⟨hown6, hb6, hsz6, hfar6⟩; have h6 := (hfar6 g (Nat.lt_of_lt_of_le hg5 al5.size) hob).2; have k6a := (cell_heap h6 1).trans ((al5.cell (p := ⟨g, 1, none⟩) hg5).trans k5a); have k6b := (cell_heap h6 3).trans ((al5.cell (p := ⟨g, 3, none⟩) hg5).trans k5b); have bb6 := (below_step hbelA (below_step bl5 al5)).trans hb6))
        all_goals
          go_wp2
          go_roundw
          case rel => exact ⟨k + 1, by omega, by go_num, HFIN.out _ _ hown6, bb6⟩
          case measure => simp [intOf] <;> omega
      · have hd8 : decide ((k : Int) < 8) = false := by simp; omega
        go_wp2
        go_roundw
        case rel =>
          refine ⟨k + 1, by omega, by go_num, ?_, hbelA⟩
          rw [show min (k + 1) 8 = min k 8 from by omega]
          exact hownA
        case measure => simp [intOf] <;> omega
    · have hd : decide ((k : Int) < (l.length : Int)) = false := by simp; omega
      have HX : Hid (wr.ownsRow w.heap.size 44 3 u3 N xs) := by
        show World.ownsRow ..
        rw [hN.out, hxs.out]
        unfold listedP
        have e1 : min l.length 8 = min k 8 := by omega
        have e2 : l.take 8 = l.take (min k 8) := by
          rcases Nat.le_total 8 l.length with q | q
          · rw [show min k 8 = 8 from by omega]
          · rw [List.take_of_length_le q, List.take_of_length_le (by omega)]
        rw [e1, e2]; exact hown
      go_wp2
      go_ret
      exact ⟨_, rfl, HX.out, hbel⟩
end Go.Proofs.Ytkjgpljkmhjclaa
/- Parts of raw things pass every check: plain facts. -/
namespace Go.Proofs.Ytkjgpljkmhjclaa
open Go.RowKit
theorem nm_ok : ∀ i : Fin 8, nmErr [110, UInt8.ofNat (97 + i.val)] = 0 := by decide +kernel
theorem nm_up : ∀ i j : Fin 8, j.val < i.val → nle [110, UInt8.ofNat (97 + i.val)] [110, UInt8.ofNat (97 + j.val)] = false := by decide +kernel
theorem nm_first : ∀ i : Fin 8, nle [110, UInt8.ofNat (97 + i.val)] [] = false := by decide +kernel
theorem lst_pErr : ∀ (l : List Rw) (i : Nat) (last : List UInt8), i + l.length ≤ 8 → (last = [] ∨ ∃ j, j < i ∧ last = [110, UInt8.ofNat (97 + j)]) → pErr last (lst i l) = 0
  | [], _, _, _, _ => rfl
  | r :: t, i, last, h, hl => by
    rw [List.length_cons] at h
    have h1 : nmErr (lp i r).nm = 0 := nm_ok ⟨i, by omega⟩
    have h2 : nle (lp i r).nm last = false := by
      rcases hl with rfl | ⟨j, hj, rfl⟩
      · exact nm_first ⟨i, by omega⟩
      · exact nm_up ⟨i, by omega⟩ ⟨j, by omega⟩ hj
    have h3 : cErr (lp i r).dg = 0 := by
      obtain ⟨e1, e2⟩ := dig_hex r.tx
      unfold cErr
      rw [if_neg (by show ¬ (dig r.tx).length ≠ 64; omega)]
      exact if_pos e2
    have h4 := pk_range r.ra 301 (by omega)
    have h5 : ¬ ((lp i r).sz < 0 ∨ 300 < (lp i r).sz) := by show ¬ (pk r.ra 301 < 0 ∨ 300 < pk r.ra 301); omega
    rw [lst, pErr, h1, if_neg (by omega), h2, if_neg (by decide), h3, if_neg (by omega), if_neg h5]
    exact lst_pErr t (i + 1) _ (by omega) (.inr ⟨i, by omega, rfl⟩)
theorem listedP_length (l : List Rw) : (listedP l).length = min l.length 8 := by unfold listedP; rw [lst_length, List.length_take]; omega
theorem listedP_ok (l : List Rw) : psErr (listedP l) = 0 := by
  unfold psErr
  rw [if_neg (by rw [listedP_length]; omega)]
  exact lst_pErr _ 0 [] (by rw [List.length_take]; omega) (.inl rfl)
theorem listedP_good (l : List Rw) : ∀ p ∈ listedP l, p.good := fun p hp => fine_good ((psErr_zero (listedP_ok l)).2 p hp)
end Go.Proofs.Ytkjgpljkmhjclaa
