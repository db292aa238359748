/- Texts that belong together: what the functions of the program and of the statements return. -/
import Derived.Test.YtdbdigcpibmgjaaGreatDoorRows
import Derived.Test.YtdbdigcpibmgjaaGreatDoorGA
import Derived.Lib.Hide
import Derived.IntWalk
import Derived.Test.YtdbdigcpibmgjaaGreatDoorGO
import Derived.Test.YtdbdigcpibmgjaaGreatDoorGX
import Derived.Deep.CutBlock
import Derived.Deep.CutRange
import Derived.Test.YtdbdigcpibmgjaaGreatDoorGC
import Derived.Test.YtdbdigcpibmgjaaGreatDoorGN
import Derived.BigQuiet
import Derived.ChangeSlices
import Derived.SizedLaws
/- Slices of texts. -/
namespace Go.Proofs.YtdbdigcpibmgjaaGreatDoor
open Go.RowKit
/-- a text as a cell -/
def sv (m : List UInt8) : Value := .string (str m)
theorem Rd.text {w : World} {A : Option Addr} {n c : Nat} {l : List (List UInt8)} (h : Rd w 1 A n c (l.map sv)) {k : Nat} (hk : k < l.length) : ∃ b off, A = some ⟨b, off, none⟩ ∧ w.cell? ⟨b, off + k, none⟩ = some (.string (str l[k])) := by
  obtain ⟨b, off, e, hc⟩ := h.at (k := k) (v := .string (str l[k])) (by rw [List.getElem?_map, List.getElem?_eq_getElem hk]; rfl)
  exact ⟨b, off, e, hc⟩
theorem Rd.tlen {w : World} {A : Option Addr} {n c : Nat} {l : List (List UInt8)} (h : Rd w 1 A n c (l.map sv)) : n = l.length := by have := h.1; simpa using this.symm
end Go.Proofs.YtdbdigcpibmgjaaGreatDoor
/- Texts in their order, none twice: plain functions, and what holds of them. Nothing of the program. -/
namespace Go.Proofs.YtdbdigcpibmgjaaGreatDoor
open Go.RowKit
/-- where a text belongs; a list with it; the list of them all -/
def tTo (l : List (List UInt8)) (s : List UInt8) : Nat := l.findIdx fun t => !Op.bytesLess t s
def tIns (l : List (List UInt8)) (s : List UInt8) : List (List UInt8) := if (l.getD (tTo l s) [] == s) && decide (tTo l s < l.length) then l else l.take (tTo l s) ++ s :: l.drop (tTo l s)
def ris (l : List (List UInt8)) : List (List UInt8) := l.foldl tIns []
theorem tTo_eq {l : List (List UInt8)} {d : List UInt8} {k : Nat} (hk : k ≤ l.length) (h1 : ∀ j (h : j < l.length), j < k → Op.bytesLess l[j] d = true) (h2 : ∀ h : k < l.length, Op.bytesLess l[k] d = false) : tTo l d = k := by
  rcases Nat.lt_trichotomy (tTo l d) k with q | q | q
  · have hlt : tTo l d < l.length := Nat.lt_of_lt_of_le q hk
    have h0 : (!Op.bytesLess l[tTo l d] d) = true := List.findIdx_getElem (xs := l) (p := fun t => !Op.bytesLess t d) (w := hlt)
    rw [h1 _ hlt q] at h0
    cases h0
  · exact q
  · have hkl : k < l.length := Nat.lt_of_lt_of_le q List.findIdx_le_length
    have := List.not_of_lt_findIdx (xs := l) (p := fun t => !Op.bytesLess t d) q
    rw [h2 hkl] at this
    simp at this
theorem tIns_length (l : List (List UInt8)) (s : List UInt8) : (tIns l s).length ≤ l.length + 1 := by
  unfold tIns
  split
  · omega
  · simp only [List.length_append, List.length_cons, List.length_take, List.length_drop]; omega
theorem ris_length (l : List (List UInt8)) : (ris l).length ≤ l.length := by
  unfold ris
  have : ∀ (l acc : List (List UInt8)), (l.foldl tIns acc).length ≤ acc.length + l.length := by
    intro l
    induction l with
    | nil => intro acc; simp
    | cons a r ih => intro acc; rw [List.foldl_cons, List.length_cons]; have := ih (tIns acc a); have := tIns_length acc a; omega
  simpa using this l []
theorem ris_step {l : List (List UInt8)} {k : Nat} (h : k < l.length) : ris (l.take (k + 1)) = tIns (ris (l.take k)) l[k] := by
  unfold ris; rw [List.take_succ_eq_append_getElem h, List.foldl_append]; rfl
/-- texts in their order, none twice -/
def SrT (l : List (List UInt8)) : Prop := l.Pairwise fun a b => Op.bytesLess a b = true
theorem tTo_le (l : List (List UInt8)) (d : List UInt8) : tTo l d ≤ l.length := List.findIdx_le_length
theorem tTo_front {l : List (List UInt8)} {d : List UInt8} {j : Nat} (hj : j < tTo l d) : Op.bytesLess (l[j]'(Nat.lt_of_lt_of_le hj (tTo_le l d))) d = true := by
  have := List.not_of_lt_findIdx (xs := l) (p := fun t => !Op.bytesLess t d) hj
  simpa using this
theorem tTo_here {l : List (List UInt8)} {d : List UInt8} (h : tTo l d < l.length) : Op.bytesLess l[tTo l d] d = false := by
  have h0 : (!Op.bytesLess l[tTo l d] d) = true := List.findIdx_getElem (xs := l) (p := fun t => !Op.bytesLess t d) (w := h)
  simpa using h0
theorem tTo_back {l : List (List UInt8)} (h : SrT l) {d : List UInt8} {j : Nat} (hj : j < l.length) (hk : tTo l d ≤ j) (hne : l[j] ≠ d) : Op.bytesLess d l[j] = true := by
  have hk2 : tTo l d < l.length := Nat.lt_of_le_of_lt hk hj
  have h1 := tTo_here hk2
  have h2 : Op.bytesLess l[j] d = false := by
    rcases Nat.lt_or_eq_of_le hk with q | q
    · rw [Bool.eq_false_iff]
      intro hh
      have := bl_trans (List.pairwise_iff_getElem.1 h _ _ hk2 hj q) hh
      rw [h1] at this
      cases this
    · have e : l[tTo l d] = l[j] := by congr 1
      rw [← e]; exact h1
  rcases bl_cases d l[j] with q | q | q
  · exact q
  · exact absurd q.symm hne
  · rw [h2] at q; cases q
/-- in order, it is there where it belongs, or nowhere -/
theorem tIns_cond {l : List (List UInt8)} (h : SrT l) {s : List UInt8} : ((l.getD (tTo l s) [] == s) && decide (tTo l s < l.length)) = true ↔ s ∈ l := by
  constructor
  · intro q
    rw [Bool.and_eq_true] at q
    obtain ⟨q1, q2⟩ := q
    have q2' : tTo l s < l.length := by simpa using q2
    rw [List.getD_eq_getElem?_getD, List.getElem?_eq_getElem q2'] at q1
    have : l[tTo l s] = s := eq_of_beq q1
    rw [← this]; exact List.getElem_mem q2'
  · intro hs
    obtain ⟨j, hj, e⟩ := List.mem_iff_getElem.1 hs
    have hle : tTo l s ≤ j := by
      rcases Nat.lt_or_ge j (tTo l s) with q | q
      · have := tTo_front q
        rw [e, bl_irrefl] at this
        cases this
      · exact q
    have hk : tTo l s < l.length := by omega
    have hjk : j = tTo l s := by
      rcases Nat.lt_or_eq_of_le hle with q | q
      · have h1 := List.pairwise_iff_getElem.1 h _ _ hk hj q
        rw [e] at h1
        rw [tTo_here hk] at h1
        cases h1
      · exact q.symm
    subst hjk
    rw [Bool.and_eq_true]
    refine ⟨?_, by simpa using hk⟩
    rw [List.getD_eq_getElem?_getD, List.getElem?_eq_getElem hk]
    simp [e]
theorem tIns_mem {l : List (List UInt8)} (h : SrT l) {s x : List UInt8} : x ∈ tIns l s ↔ x ∈ l ∨ x = s := by
  unfold tIns
  by_cases hc : ((l.getD (tTo l s) [] == s) && decide (tTo l s < l.length)) = true
  · rw [if_pos hc]
    have hs := (tIns_cond h).1 hc
    constructor
    · exact .inl
    · rintro (q | rfl)
      · exact q
      · exact hs
  · rw [if_neg hc, List.mem_append, List.mem_cons]
    constructor
    · rintro (q | q | q)
      · exact .inl (List.mem_of_mem_take q)
      · exact .inr q
      · exact .inl (List.mem_of_mem_drop q)
    · rintro (q | q)
      · rw [← List.take_append_drop (tTo l s) l, List.mem_append] at q
        rcases q with q | q
        · exact .inl q
        · exact .inr (.inr q)
      · exact .inr (.inl q)
theorem SrT.ins {l : List (List UInt8)} (h : SrT l) (s : List UInt8) : SrT (tIns l s) := by
  unfold tIns
  by_cases hc : ((l.getD (tTo l s) [] == s) && decide (tTo l s < l.length)) = true
  · rw [if_pos hc]; exact h
  · rw [if_neg hc]
    have hn : s ∉ l := fun q => hc ((tIns_cond h).2 q)
    unfold SrT
    rw [List.pairwise_append]
    refine ⟨List.Pairwise.sublist (List.take_sublist _ _) h, List.pairwise_cons.2 ⟨fun x hx => ?_, List.Pairwise.sublist (List.drop_sublist _ _) h⟩, fun a ha x hx => ?_⟩
    · obtain ⟨i, hi, rfl⟩ := List.mem_iff_getElem.1 hx
      rw [List.getElem_drop]
      rw [List.length_drop] at hi
      exact tTo_back h _ (by omega) (fun q => hn (q ▸ List.getElem_mem _))
    · obtain ⟨i, hi, rfl⟩ := List.mem_iff_getElem.1 ha
      rw [List.length_take] at hi
      rw [List.getElem_take]
      have hf : Op.bytesLess (l[i]'(by omega)) s = true := tTo_front (by omega)
      rcases List.mem_cons.1 hx with rfl | hx
      · exact hf
      · obtain ⟨j, hj, rfl⟩ := List.mem_iff_getElem.1 hx
        rw [List.getElem_drop]
        rw [List.length_drop] at hj
        exact bl_trans hf (tTo_back h _ (by omega) (fun q => hn (q ▸ List.getElem_mem _)))
theorem foldl_tIns : ∀ (l acc : List (List UInt8)), SrT acc → SrT (l.foldl tIns acc) ∧ ∀ x, x ∈ l.foldl tIns acc ↔ x ∈ acc ∨ x ∈ l
  | [], acc, h => ⟨h, fun x => by simp⟩
  | a :: r, acc, h => by
    obtain ⟨h1, h2⟩ := foldl_tIns r (tIns acc a) (h.ins a)
    refine ⟨h1, fun x => ?_⟩
    rw [List.foldl_cons, h2, tIns_mem h, List.mem_cons]
    constructor
    · rintro ((q | q) | q)
      · exact .inl q
      · exact .inr (.inl q)
      · exact .inr (.inr q)
    · rintro (q | q | q)
      · exact .inl (.inl q)
      · exact .inl (.inr q)
      · exact .inr q
theorem ris_srt (l : List (List UInt8)) : SrT (ris l) := (foldl_tIns l [] List.Pairwise.nil).1
theorem ris_mem {l : List (List UInt8)} {x : List UInt8} : x ∈ ris l ↔ x ∈ l := by
  have := (foldl_tIns l [] List.Pairwise.nil).2 x
  unfold ris
  simpa using this
/-- texts in their order are known by what is among them -/
theorem SrT.ext : ∀ {l m : List (List UInt8)}, SrT l → SrT m → (∀ x, x ∈ l ↔ x ∈ m) → l = m
  | [], [], _, _, _ => rfl
  | [], b :: m, _, _, h => absurd ((h b).2 (List.mem_cons_self ..)) (by simp)
  | a :: l, [], _, _, h => absurd ((h a).1 (List.mem_cons_self ..)) (by simp)
  | a :: l, b :: m, hl, hm, h => by
    obtain ⟨hl1, hl2⟩ := List.pairwise_cons.1 hl
    obtain ⟨hm1, hm2⟩ := List.pairwise_cons.1 hm
    have hab : a = b := by
      rcases List.mem_cons.1 ((h a).1 (List.mem_cons_self ..)) with q | q
      · exact q
      · rcases List.mem_cons.1 ((h b).2 (List.mem_cons_self ..)) with p | p
        · exact p.symm
        · have := bl_trans (hm1 a q) (hl1 b p)
          rw [bl_irrefl] at this
          cases this
    subst hab
    congr 1
    refine SrT.ext hl2 hm2 fun x => ?_
    constructor
    · intro q
      rcases List.mem_cons.1 ((h x).1 (List.mem_cons_of_mem _ q)) with p | p
      · subst p
        have := hl1 x q
        rw [bl_irrefl] at this
        cases this
      · exact p
    · intro q
      rcases List.mem_cons.1 ((h x).2 (List.mem_cons_of_mem _ q)) with p | p
      · subst p
        have := hm1 x q
        rw [bl_irrefl] at this
        cases this
      · exact p
theorem ris_ext {l m : List (List UInt8)} (h : ∀ x, x ∈ l ↔ x ∈ m) : ris l = ris m := SrT.ext (ris_srt l) (ris_srt m) fun x => by rw [ris_mem, ris_mem, h]
theorem ris_of {l m : List (List UInt8)} (hs : SrT m) (h : ∀ x, x ∈ l ↔ x ∈ m) : ris l = m := SrT.ext (ris_srt l) hs fun x => by rw [ris_mem, h]
end Go.Proofs.YtdbdigcpibmgjaaGreatDoor
/- Texts of the call's own, handed back. -/
namespace Go.Proofs.YtdbdigcpibmgjaaGreatDoor
open Go.RowKit
/-- texts of the call's own, handed back -/
def GivesTx (L : List (List UInt8)) (w : World) (e : Ending) (w' : World) : Prop := ∃ v, e = .returned v ∧ w'.ownsRow w.heap.size 9 1 v L.length (L.map sv) ∧ Below w.heap.size w w'
theorem GivesTx.rd {L : List (List UInt8)} {w w' : World} {e : Ending} (h : GivesTx L w e w') : ∃ A c, e = .returned (.slice A L.length c) ∧ Rd w' 1 A L.length c (L.map sv) ∧ (A = none → c = 0) ∧ (∀ a : Addr, A = some a → w.heap.size ≤ a.block ∧ a.block < w'.heap.size) ∧ Below w.heap.size w w' := by
  obtain ⟨v, rfl, ho, hb⟩ := h
  obtain ⟨A, c, rfl, h1, h2, h3⟩ := own_rdK ho
  exact ⟨A, c, rfl, h1, h2, h3, hb⟩
end Go.Proofs.YtdbdigcpibmgjaaGreatDoor
/- Rows of texts of the call's own. -/
namespace Go.Proofs.YtdbdigcpibmgjaaGreatDoor
open Go.RowKit
theorem sv_one (l : List (List UInt8)) : ∀ v ∈ l.map sv, v.oneCell' = true := by
  intro v hv
  obtain ⟨t, _, rfl⟩ := List.mem_map.1 hv
  rfl
theorem str_info : (Tryz.prog.info? 9).map (fun i => (i.zero, i.size, i.bytes)) = some (some (.string ByteArray.empty), 1, 16) := by kernel_rfl
theorem own_empty (w : World) (e : TypeId) : (w.alloc (.cells #[] e)).ownsRow w.heap.size e 1 (.slice (some ⟨w.heap.size, 0, none⟩) 0 0) 0 [] := by
  refine ⟨rfl, .inr ⟨w.heap.size, 0, #[], rfl, Nat.le_refl _, heap_alloc_new w _, Nat.le_refl _, by unfold maxLen; omega, rfl, rfl⟩⟩
/-- one more text in a row of the call's own -/
theorem own_snoc {w : World} {base : Nat} {e : TypeId} {v : Value} {met : List (List UInt8)} {d : List UInt8} (h : w.ownsRow base e 1 v (met.length + 1) (met.map sv ++ [.string (str d)])) : w.ownsRow base e 1 v (met ++ [d]).length ((met ++ [d]).map sv) := by
  rw [List.length_append, List.map_append]; exact h
end Go.Proofs.YtdbdigcpibmgjaaGreatDoor
/- The reference's rising. -/
namespace Go.Proofs.YtdbdigcpibmgjaaGreatDoor
open Go.RowKit
set_option maxRecDepth 100000 in
set_option maxHeartbeats 4000000 in
theorem rising_any (A : Option Addr) (n c : Nat) (l : List (List UInt8)) (w : World) (hr : Rd w 1 A n c (l.map sv)) (hz : n * 16 ≤ 140737488355328) :
    Calls Tryz.prog 33 #[.slice A n c] w fun e w' => ∃ v, e = .returned v ∧ w'.ownsRow w.heap.size 9 1 v (ris l).length ((ris l).map sv) ∧ Below w.heap.size w w' := by
  obtain rfl := hr.tlen
  have hcm := hr.2.1
  have hcx := hr.2.2.1
  unfold maxLen at hcx
  obtain ⟨i0, hi0, hz0, hz1, hz2⟩ := info_parts str_info
  go_enter Tryz.func33, Tryz.ntmps33
  go_wp2
  go_loopw [3, 5, 6, 7, 10] (fun v _ _ _ s wr => ∃ k : Nat, k ≤ l.length ∧ s = .int .i64 k ∧ wr.ownsRow w.heap.size 9 1 v (ris (l.take k)).length ((ris (l.take k)).map sv) ∧ Below w.heap.size w wr) (fun _ _ _ _ s _ => l.length - (intOf s).toNat)
  case atStart => exact ⟨0, Nat.zero_le _, rfl, World.ownsRow_nil _ _ _ _, Below.refl _ _⟩
  case round =>
    obtain ⟨k, hk, rfl, hown, hbel⟩ := hrel
    by_cases hlt : k < l.length
    · obtain ⟨b, off, rfl, hc0⟩ := (hr.below hbel).text hlt
      have hki : (k : Int) < (l.length : Int) := by omega
      have HS := Lib.hid (ris_step hlt)
      have hol := ris_length (l.take k)
      rw [List.length_take] at hol
      generalize ris (l.take k) = out at *
      generalize l[k] = s at *
      obtain ⟨A1, c1, rfl, hr1, hA1, hF1⟩ := own_rdK hown
      have hcap1 := hr1.2.1
      have hcap2 := hr1.2.2.1
      unfold maxLen at hcap2
      obtain ⟨K, hK⟩ : ∃ K, tTo out s = K := ⟨_, rfl⟩
      have HK := Lib.hid hK
      have hKl : K ≤ out.length := by rw [← hK]; exact List.findIdx_le_length
      clear hK
      go_upto_block 2 with fail
      go_cut [6, 10] from 10 to 54 (fun s6 s10 wx => s10 = .int .i64 (k : Int) ∧ s6 = .int .i64 (K : Int) ∧ wx = wr)
      case first =>
        clear hc0
        go_wp2_with fail
        go_loop [6] (fun i => ∃ j : Nat, j ≤ out.length ∧ i = .int .i64 j ∧ Hid (∀ m (h : m < out.length), m < j → Op.bytesLess out[m] s = true)) (fun i => out.length - (intOf i).toNat)
        case atStart => exact ⟨0, Nat.zero_le _, rfl, fun j _ h => absurd h (by omega)⟩
        case round =>
          obtain ⟨j, hj, rfl, HA⟩ := hrel
          by_cases hjl : j < out.length
          · obtain ⟨b1, off1, rfl, hd0⟩ := hr1.text hjl
            have hji : (j : Int) < (out.length : Int) := by omega
            have d1 : decide ((j : Int) < (out.length : Int)) = true := by simpa using hji
            cases hq : Op.bytesLess out[j] s with
            | true =>
              have HN : Hid (∀ m (h : m < out.length), m < j + 1 → Op.bytesLess out[m] s = true) := fun m h hm => by
                rcases Nat.lt_or_eq_of_le (Nat.le_of_lt_succ hm) with q | q
                · exact HA.out m h q
                · subst q; exact hq
              generalize out[j] = y at *
              go_wp2
              go_round
              case rel => exact ⟨j + 1, by omega, by go_num, HN.out⟩
              case measure => simp [intOf] <;> omega
            | false =>
              have HF : Hid (K = j) := by show _ = _; rw [← HK.out]; exact tTo_eq hj HA.out (fun _ => hq)
              generalize out[j] = y at *
              go_wp2
              go_meet
              exact ⟨rfl, by rw [HF.out], rfl⟩
          · have d1 : decide ((j : Int) < (out.length : Int)) = false := by rw [decide_eq_false_iff_not]; omega
            have HF : Hid (K = j) := by show _ = _; rw [← HK.out]; exact tTo_eq hj HA.out (fun h => absurd h hjl)
            go_wp2
            go_meet
            exact ⟨rfl, by rw [HF.out], rfl⟩
      case rest =>
        obtain ⟨rfl, rfl, rfl⟩ := hcut
        by_cases hth : K < out.length ∧ out.getD K [] = s
        · obtain ⟨hKlt, hKe⟩ := hth
          obtain ⟨b1, off1, rfl, hd0⟩ := hr1.text hKlt
          rw [getD_lt hKlt] at hKe
          have hKi : (K : Int) < (out.length : Int) := by omega
          have d1 : decide ((K : Int) < (out.length : Int)) = true := by simpa using hKi
          have d2 : (out[K] == s) = true := by rw [beq_iff_eq]; exact hKe
          have HI : Hid (tIns out s = out) := by show _ = _; unfold tIns; rw [HK.out, if_pos (by rw [getD_lt hKlt, d2]; simpa using hKlt)]
          clear hKe
          generalize out[K] = y at *
          go_wp2
          go_roundw
          case rel => exact ⟨k + 1, by omega, by go_num, by rw [HS.out, HI.out]; exact hown, hbel⟩
          case measure => simp [intOf] <;> omega
        · have HI : Hid (tIns out s = out.take K ++ s :: out.drop K) := by
            show _ = _
            unfold tIns
            rw [HK.out, if_neg ?_]
            rw [Bool.and_eq_true, beq_iff_eq, decide_eq_true_iff]
            exact fun q => hth ⟨q.2, q.1⟩
          have hrT := hr1.take K hKl
          rw [← List.map_take] at hrT
          have halE := (Below.refl wc.heap.size wc).alloc (Nat.le_refl _) (.cells #[] 9)
          replace hrT := hrT.below halE
          have hsE := halE.size
          have hKc : (K : Int) ≤ (c1 : Int) := by omega
          have hKn : (K : Int) ≤ (out.length : Int) := by omega
          have hform := hown.2
          rcases hform with ⟨q, q0⟩ | ⟨g1, cap1, cur1, q, -⟩
          · injection q with qa qb qc
            subst qa; subst qc
            obtain rfl : K = 0 := by omega
            have hrD : Rd wc 1 none 0 0 ((out.drop 0).map sv) := by
              rw [List.drop_of_length_le (by omega)]
              exact Rd.none0 _ _ _ (by unfold maxLen; omega)
            have hAD : (none : Option Addr) = none → 0 = 0 := fun _ => rfl
            have d1 : decide ((0 : Int) < (out.length : Int)) = false := by rw [decide_eq_false_iff_not]; omega
            clear hth
            go_wp2_with (at_builtin; first
              | (refine wpList_appendM rfl (.tmp 40) (.tmp 43) _ rfl Tryz.underlying26 hi0 hz0 hz1 hz2 rfl (by omega) _ 0 [] rfl (own_empty wc 9) hrT hA1 (sv_one _) rfl (by omega) (by unfold maxLen; omega) hsE ?_; rintro v2 w2 ⟨hown2, hb2, hs2, -⟩; rw [Nat.zero_add, List.nil_append] at hown2; have hbW2 := halE.trans hb2; have hz2' := hbW2.size)
              | (refine wpList_append1' rfl (.tmp 45) (.tmp 47) _ rfl Tryz.underlying26 hi0 hz0 hz1 hz2 rfl (by omega) v2 _ _ rfl hown2 [.string (str s)] rfl (by simp [Value.oneCell']) (by first | rfl | simp [Act.eval]) (by omega) (by unfold maxLen; omega) hz2' ?_; rintro v3 w3 ⟨hown3, hb3, hs3, -⟩; have hbW3 := hbW2.trans hb3; have hz3' := hbW3.size; have hrD3 := hrD.below hbW3)
              | (refine wpList_appendM rfl (.tmp 49) (.tmp 52) _ rfl Tryz.underlying26 hi0 hz0 hz1 hz2 rfl (by omega) v3 _ _ rfl hown3 hrD3 hAD (sv_one _) rfl (by omega) (by unfold maxLen; omega) hz3' ?_; rintro v4 w4 ⟨hown4, hb4, hs4, -⟩))
            go_roundw
            case rel =>
              refine ⟨k + 1, by omega, by go_num, ?_, below_step hbel (hbW3.trans hb4)⟩
              rw [HS.out, HI.out]
              have hfin := own_base hown4 hbel.size
              have e1 : (out.take 0 ++ s :: out.drop 0).length = 0 + 1 + 0 := by simp only [List.length_append, List.length_cons, List.length_take, List.length_drop]; omega
              rw [e1, show (out.take 0 ++ s :: out.drop 0).map sv = (out.take 0).map sv ++ [.string (str s)] ++ (out.drop 0).map sv by simp [sv]]
              exact hfin
            case measure => simp [intOf] <;> omega
          · injection q with qa qb qc
            subst qa; subst qc
            by_cases hcK : c1 = K
            · subst hcK
              have hKo : c1 = out.length := by omega
              have HKO := Lib.hid hKo
              have hrD : Rd wc 1 (some ⟨g1, 0, none⟩) 0 0 ((out.drop c1).map sv) := by
                rw [List.drop_of_length_le (by omega)]
                exact Rd.none0 _ _ _ (by unfold maxLen; omega)
              have hAD : some (⟨g1, 0, none⟩ : Addr) = none → 0 = 0 := fun _ => rfl
              have d1 : decide ((c1 : Int) < (out.length : Int)) = false := by rw [decide_eq_false_iff_not]; omega
              clear hth hKo
              go_wp2_with (at_builtin; first
                | (refine wpList_appendM rfl (.tmp 40) (.tmp 43) _ rfl Tryz.underlying26 hi0 hz0 hz1 hz2 rfl (by omega) _ 0 [] rfl (own_empty wc 9) hrT hA1 (sv_one _) rfl (by omega) (by unfold maxLen; omega) hsE ?_; rintro v2 w2 ⟨hown2, hb2, hs2, -⟩; rw [Nat.zero_add, List.nil_append] at hown2; have hbW2 := halE.trans hb2; have hz2' := hbW2.size)
                | (refine wpList_append1' rfl (.tmp 45) (.tmp 47) _ rfl Tryz.underlying26 hi0 hz0 hz1 hz2 rfl (by omega) v2 _ _ rfl hown2 [.string (str s)] rfl (by simp [Value.oneCell']) (by first | rfl | simp [Act.eval]) (by omega) (by unfold maxLen; omega) hz2' ?_; rintro v3 w3 ⟨hown3, hb3, hs3, -⟩; have hbW3 := hbW2.trans hb3; have hz3' := hbW3.size; have hrD3 := hrD.below hbW3)
                | (refine wpList_appendM rfl (.tmp 49) (.tmp 52) _ rfl Tryz.underlying26 hi0 hz0 hz1 hz2 rfl (by omega) v3 _ _ rfl hown3 hrD3 hAD (sv_one _) rfl (by omega) (by unfold maxLen; omega) hz3' ?_; rintro v4 w4 ⟨hown4, hb4, hs4, -⟩))
              go_roundw
              case rel =>
                refine ⟨k + 1, by omega, by go_num, ?_, below_step hbel (hbW3.trans hb4)⟩
                rw [HS.out, HI.out]
                have hfin := own_base hown4 hbel.size
                have e1 : (out.take c1 ++ s :: out.drop c1).length = c1 + 1 + 0 := by simp only [List.length_append, List.length_cons, List.length_take, List.length_drop]; have := HKO.out; omega
                rw [e1, show (out.take c1 ++ s :: out.drop c1).map sv = (out.take c1).map sv ++ [.string (str s)] ++ (out.drop c1).map sv by simp [sv]]
                exact hfin
              case measure => simp [intOf] <;> omega
            · have hrD := hr1.drop K hKl
              rw [← List.map_drop, Nat.zero_add] at hrD
              have hAD : some (⟨g1, K, none⟩ : Addr) = none → c1 - K = 0 := fun q => by cases q
              by_cases hKlt : K < out.length
              · obtain ⟨b1, off1, hb1e, hd0⟩ := hr1.text hKlt
                injection hb1e with hb1e
                injection hb1e with hb1 hb2
                subst hb1; subst hb2
                rw [Nat.zero_add] at hd0
                have hKi : (K : Int) < (out.length : Int) := by omega
                have d1 : decide ((K : Int) < (out.length : Int)) = true := by simpa using hKi
                have d2 : (out[K] == s) = false := by
                  rw [beq_eq_false_iff_ne]
                  exact fun q => hth ⟨hKlt, by rw [getD_lt hKlt]; exact q⟩
                clear hth
                generalize out[K] = y at *
                go_wp2_with (at_builtin; first
                  | (refine wpList_appendM rfl (.tmp 40) (.tmp 43) _ rfl Tryz.underlying26 hi0 hz0 hz1 hz2 rfl (by omega) _ 0 [] rfl (own_empty wc 9) hrT hA1 (sv_one _) rfl (by omega) (by unfold maxLen; omega) hsE ?_; rintro v2 w2 ⟨hown2, hb2, hs2, -⟩; rw [Nat.zero_add, List.nil_append] at hown2; have hbW2 := halE.trans hb2; have hz2' := hbW2.size)
                  | (refine wpList_append1' rfl (.tmp 45) (.tmp 47) _ rfl Tryz.underlying26 hi0 hz0 hz1 hz2 rfl (by omega) v2 _ _ rfl hown2 [.string (str s)] rfl (by simp [Value.oneCell']) (by first | rfl | simp [Act.eval]) (by omega) (by unfold maxLen; omega) hz2' ?_; rintro v3 w3 ⟨hown3, hb3, hs3, -⟩; have hbW3 := hbW2.trans hb3; have hz3' := hbW3.size; have hrD3 := hrD.below hbW3)
                  | (refine wpList_appendM rfl (.tmp 49) (.tmp 52) _ rfl Tryz.underlying26 hi0 hz0 hz1 hz2 rfl (by omega) v3 _ _ rfl hown3 hrD3 hAD (sv_one _) rfl (by omega) (by unfold maxLen; omega) hz3' ?_; rintro v4 w4 ⟨hown4, hb4, hs4, -⟩))
                go_roundw
                case rel =>
                  refine ⟨k + 1, by omega, by go_num, ?_, below_step hbel (hbW3.trans hb4)⟩
                  rw [HS.out, HI.out]
                  have hfin := own_base hown4 hbel.size
                  have e1 : (out.take K ++ s :: out.drop K).length = K + 1 + (out.length - K) := by simp only [List.length_append, List.length_cons, List.length_take, List.length_drop]; omega
                  rw [e1, show (out.take K ++ s :: out.drop K).map sv = (out.take K).map sv ++ [.string (str s)] ++ (out.drop K).map sv by simp [sv]]
                  exact hfin
                case measure => simp [intOf] <;> omega
              · have d1 : decide ((K : Int) < (out.length : Int)) = false := by rw [decide_eq_false_iff_not]; omega
                clear hth
                go_wp2_with (at_builtin; first
                  | (refine wpList_appendM rfl (.tmp 40) (.tmp 43) _ rfl Tryz.underlying26 hi0 hz0 hz1 hz2 rfl (by omega) _ 0 [] rfl (own_empty wc 9) hrT hA1 (sv_one _) rfl (by omega) (by unfold maxLen; omega) hsE ?_; rintro v2 w2 ⟨hown2, hb2, hs2, -⟩; rw [Nat.zero_add, List.nil_append] at hown2; have hbW2 := halE.trans hb2; have hz2' := hbW2.size)
                  | (refine wpList_append1' rfl (.tmp 45) (.tmp 47) _ rfl Tryz.underlying26 hi0 hz0 hz1 hz2 rfl (by omega) v2 _ _ rfl hown2 [.string (str s)] rfl (by simp [Value.oneCell']) (by first | rfl | simp [Act.eval]) (by omega) (by unfold maxLen; omega) hz2' ?_; rintro v3 w3 ⟨hown3, hb3, hs3, -⟩; have hbW3 := hbW2.trans hb3; have hz3' := hbW3.size; have hrD3 := hrD.below hbW3)
                  | (refine wpList_appendM rfl (.tmp 49) (.tmp 52) _ rfl Tryz.underlying26 hi0 hz0 hz1 hz2 rfl (by omega) v3 _ _ rfl hown3 hrD3 hAD (sv_one _) rfl (by omega) (by unfold maxLen; omega) hz3' ?_; rintro v4 w4 ⟨hown4, hb4, hs4, -⟩))
                go_roundw
                case rel =>
                  refine ⟨k + 1, by omega, by go_num, ?_, below_step hbel (hbW3.trans hb4)⟩
                  rw [HS.out, HI.out]
                  have hfin := own_base hown4 hbel.size
                  have e1 : (out.take K ++ s :: out.drop K).length = K + 1 + (out.length - K) := by simp only [List.length_append, List.length_cons, List.length_take, List.length_drop]; omega
                  rw [e1, show (out.take K ++ s :: out.drop K).map sv = (out.take K).map sv ++ [.string (str s)] ++ (out.drop K).map sv by simp [sv]]
                  exact hfin
                case measure => simp [intOf] <;> omega
    · have hd2 : decide ((k : Int) < (l.length : Int)) = false := by rw [decide_eq_false_iff_not]; omega
      rw [List.take_of_length_le (by omega)] at hown
      go_wp2
      go_ret
      exact ⟨_, rfl, hown, hbel⟩
end Go.Proofs.YtdbdigcpibmgjaaGreatDoor
/- The digests of the parts that are in bytes: a plain function. Nothing of the program. -/
namespace Go.Proofs.YtdbdigcpibmgjaaGreatDoor
open Go.RowKit
theorem rdTail_len : ∀ (k : Nat) (acc : List Prt) (r : List UInt8), (rdTail k acc r).2.length ≤ acc.length + k
  | 0, acc, r => by
    rw [rdTail]
    split <;> (try split) <;> simp
  | k + 1, acc, r => by
    rw [rdTail]
    have := rdTail_len k (acc ++ [⟨tStr r, hexT ((tRest r).take 32), (rVal ((tRest r).drop 32) : Int)⟩]) (rRest ((tRest r).drop 32))
    rw [List.length_append] at this
    simp only [List.length_singleton] at this
    repeat' split
    all_goals first | (simp; done) | omega
theorem dec_len (l : List UInt8) : (dec l).2.length ≤ 8 := by
  unfold dec
  split
  · simp
  · split
    · simp
    · split
      · simp
      · split
        · simp
        · have := rdTail_len (rVal (l.drop 3)) [] (rRest (l.drop 3))
          simp at this
          omega
/-- the digests of the parts that are in bytes -/
def pIn (b : List UInt8) : List (List UInt8) := (dec b).2.map Prt.dg
theorem pIn_len (b : List UInt8) : (pIn b).length ≤ 8 := by unfold pIn; rw [List.length_map]; exact dec_len b
end Go.Proofs.YtdbdigcpibmgjaaGreatDoor
/- The reference's PartsIn. -/
namespace Go.Proofs.YtdbdigcpibmgjaaGreatDoor
open Go.RowKit
set_option maxRecDepth 100000 in
set_option maxHeartbeats 1000000 in
theorem partsIn_any (b : Bl) (D : Option Addr) (m d : Nat) (w : World) (hr : Rd w 1 D m d (b.dt.map bv8)) :
    Calls Tryz.prog 41 #[.agg #[.string (str b.dg), .slice D m d, .int .i64 b.pn, .bool b.mr]] w fun e w' => ∃ v, e = .returned v ∧ w'.ownsRow w.heap.size 9 1 v (pIn b.dt).length ((pIn b.dt).map sv) ∧ Below w.heap.size w w' := by
  obtain ⟨i0, hi0, hz0, hz1, hz2⟩ := info_parts str_info
  have hp := fun W hW => partsOf_any D m d b.dt W (hr.below (w' := W) hW)
  have hl8 := dec_len b.dt
  have hpi : pIn b.dt = (dec b.dt).2.map Prt.dg := rfl
  rw [hpi]
  clear hpi
  obtain ⟨er, ps, hE⟩ : ∃ er ps, dec b.dt = (er, ps) := ⟨_, _, rfl⟩
  rw [hE] at hp hl8 ⊢
  have HP := Lib.hid hp
  clear hp hE
  have hl8' : ps.length ≤ 8 := hl8
  have hal := (Below.refl w.heap.size w).alloc (Nat.le_refl _) (.cells #[.string (str b.dg), .slice D m d, .int .i64 b.pn, .bool b.mr] 45)
  have e1 := (Blk.new w 45 [.string (str b.dg), .slice D m d, .int .i64 b.pn, .bool b.mr]).cell 1
  simp only [List.getElem?_cons_succ, List.getElem?_cons_zero] at e1
  go_enter Tryz.func41, Tryz.ntmps41
  go_wp2_with fail
  with_reducible refine (HP.out _ hal).mono ?_
  rintro e w1 ⟨A1, n1, c1, rfl, hr1, hA1, hb1⟩
  have hbA := below_step hal hb1
  obtain rfl : n1 = ps.length := hr1.plen
  clear hal hb1 e1 HP hr
  go_wp2
  go_loopw [5, 7, 16] (fun v _ i wr => ∃ k : Nat, k ≤ ps.length ∧ i = .int .i64 k ∧ wr.ownsRow w1.heap.size 9 1 v k ((ps.take k).map fun q => sv q.dg) ∧ Below w1.heap.size w1 wr ∧ Below w.heap.size w wr) (fun _ _ i _ => ps.length - (intOf i).toNat)
  case atStart => exact ⟨0, Nat.zero_le _, rfl, World.ownsRow_nil _ _ _ _, Below.refl _ _, hbA⟩
  case round =>
    obtain ⟨k, hk, rfl, ho, hb2, hbel⟩ := hrel
    by_cases hlt : k < ps.length
    · obtain ⟨b2, off, rfl, c0, c1', c2⟩ := (hr1.below hb2).part hlt
      have HT : Hid ((ps.take (k + 1)).map (fun q => sv q.dg) = (ps.take k).map (fun q => sv q.dg) ++ [sv ps[k].dg]) := by
        show _ = _
        rw [List.take_succ_eq_append_getElem hlt, List.map_append]
        rfl
      have hki : (k : Int) < (ps.length : Int) := by omega
      generalize ps[k] = q at *
      have hal := (Below.refl wr.heap.size wr).alloc (Nat.le_refl _) (.cells #[.string (str q.nm), .string (str q.dg), .int .i64 q.sz] 97)
      have e1 := (Blk.new wr 97 [.string (str q.nm), .string (str q.dg), .int .i64 q.sz]).cell 1
      simp only [List.getElem?_cons_succ, List.getElem?_cons_zero] at e1
      have ho1 := own_below ho hal
      have hz1' : w1.heap.size ≤ (wr.alloc (.cells #[.string (str q.nm), .string (str q.dg), .int .i64 q.sz] 97)).heap.size := Nat.le_trans hb2.size hal.size
      have hb2a := below_step hb2 hal
      go_wp2_with (at_builtin; refine wpList_append1 rfl (.tmp 20) (.tmp 23) _ rfl Tryz.underlying26 hi0 hz0 hz1 hz2 rfl (by omega) _ _ _ rfl ho1 [.string (str q.dg)] rfl (by simp [Value.oneCell']) (by first | rfl | simp [Act.eval]) (by omega) (by omega) hz1' ?_; rintro v3 w3 ⟨ho3, hb3, hs3, -⟩)
      have ho4 : w3.ownsRow w1.heap.size 9 1 v3 (k + 1) ((ps.take (k + 1)).map fun q => sv q.dg) := by rw [HT.out]; exact ho3
      have HO4 := Lib.hid ho4
      have hb4 := hb2a.trans hb3
      clear ho3 ho4
      go_wp2
      go_roundw
      case rel => exact ⟨k + 1, by omega, by go_num, HO4.out, hb4, below_step hbA hb4⟩
      case measure => simp [intOf] <;> omega
    · have hd2 : decide ((k : Int) < (ps.length : Int)) = false := by simp; omega
      have hkl : k = ps.length := by omega
      subst hkl
      rw [List.take_length] at ho
      have ho' : wr.ownsRow w.heap.size 9 1 u5 (ps.map Prt.dg).length ((ps.map Prt.dg).map sv) := by
        rw [List.length_map, List.map_map]
        exact own_base ho hbA.size
      have HO := Lib.hid ho'
      clear ho ho'
      go_wp2
      go_ret
      exact ⟨_, rfl, HO.out, hbel⟩
end Go.Proofs.YtdbdigcpibmgjaaGreatDoor
/- What is met from some digests on: plain functions, and what holds of them. Nothing of the program. -/
namespace Go.Proofs.YtdbdigcpibmgjaaGreatDoor
open Go.RowKit
theorem nodup_lt : ∀ (n : Nat) (s : List Nat), s.Nodup → (∀ x ∈ s, x < n) → s.length ≤ n
  | 0, s, _, h => by
    cases s with
    | nil => simp
    | cons x r => exact absurd (h x (List.mem_cons_self ..)) (by omega)
  | n + 1, s, hn, h => by
    by_cases hm : n ∈ s
    · have h1 := nodup_lt n (s.erase n) (hn.erase n) (fun x hx => by
        have h2 : x ≠ n := fun q => by
          subst q
          exact (List.Nodup.not_mem_erase hn) hx
        have := h x (List.mem_of_mem_erase hx)
        omega)
      rw [List.length_erase_of_mem hm] at h1
      omega
    · have := nodup_lt n s hn (fun x hx => by
        have h2 : x ≠ n := fun q => hm (q ▸ hx)
        have := h x hx
        omega)
      omega
section
variable (l : List Bl) (P : Bl → List (List UInt8))
/-- one digest more, if its blob is there and it is not yet met -/
def rAdd (met : List (List UInt8)) (d : List UInt8) : List (List UInt8) := if bAt l d < l.length ∧ (met.any fun t => d == t) = false then met ++ [d] else met
def rAdds (met ds : List (List UInt8)) : List (List UInt8) := ds.foldl (rAdd l) met
/-- the parts of the blob of a digest -/
def rPar (d : List UInt8) : List (List UInt8) := P (l.getD (bAt l d) default)
/-- all that is met, place after place -/
def rGo : Nat → List (List UInt8) → Nat → List (List UInt8)
  | 0, met, _ => met
  | f + 1, met, i => if h : i < met.length then rGo f (rAdds l met (rPar l P met[i])) (i + 1) else met
/-- digests of blobs that are there, none twice -/
structure Met (met : List (List UInt8)) : Prop where
  nd : met.Nodup
  inl : ∀ d ∈ met, bAt l d < l.length
variable {l P}
theorem Met.nil : Met l [] := ⟨List.nodup_nil, fun _ h => by cases h⟩
theorem bAt_inj {d e : List UInt8} (hd : bAt l d < l.length) (he : bAt l e < l.length) (q : bAt l d = bAt l e) : d = e := by
  have h1 := bAt_there hd
  have h2 := bAt_there he
  have : l[bAt l d] = l[bAt l e] := by congr 1
  rw [← h1, ← h2, this]
theorem Met.len {met : List (List UInt8)} (h : Met l met) : met.length ≤ l.length := by
  have h1 : (met.map (bAt l)).Nodup := by
    rw [List.nodup_iff_pairwise_ne, List.pairwise_map]
    have h0 := h.nd
    rw [List.nodup_iff_pairwise_ne] at h0
    refine List.Pairwise.imp_of_mem (fun {a b} ha hb hne q => hne (bAt_inj (h.inl a ha) (h.inl b hb) q)) h0
  have := nodup_lt l.length (met.map (bAt l)) h1 (fun x hx => by
    obtain ⟨d, hd, rfl⟩ := List.mem_map.1 hx
    exact h.inl d hd)
  rwa [List.length_map] at this
theorem any_mem {met : List (List UInt8)} {d : List UInt8} : (met.any fun t => d == t) = true ↔ d ∈ met := by
  rw [List.any_eq_true]
  constructor
  · rintro ⟨t, ht, q⟩
    rw [eq_of_beq q]; exact ht
  · intro h
    exact ⟨d, h, by simp⟩
theorem any_not {met : List (List UInt8)} {d : List UInt8} : (met.any fun t => d == t) = false ↔ d ∉ met := by
  rw [← any_mem (met := met) (d := d)]
  cases met.any fun t => d == t <;> simp
theorem rAdd_mem {met : List (List UInt8)} {d x : List UInt8} : x ∈ rAdd l met d ↔ x ∈ met ∨ (x = d ∧ bAt l d < l.length) := by
  unfold rAdd
  split
  · rename_i q
    rw [List.mem_append, List.mem_singleton]
    constructor
    · rintro (h | h)
      · exact .inl h
      · exact .inr ⟨h, q.1⟩
    · rintro (h | h)
      · exact .inl h
      · exact .inr h.1
  · rename_i q
    constructor
    · exact .inl
    · rintro (h | ⟨rfl, h2⟩)
      · exact h
      · exact Classical.byContradiction fun hn => q ⟨h2, any_not.2 hn⟩
theorem Met.add {met : List (List UInt8)} (h : Met l met) (d : List UInt8) : Met l (rAdd l met d) := by
  refine ⟨?_, fun x hx => ?_⟩
  · unfold rAdd
    split
    · rename_i q
      have hn := any_not.1 q.2
      rw [List.nodup_append]
      exact ⟨h.nd, by simp, fun a ha b hb => by rw [List.mem_singleton] at hb; subst hb; exact fun q => hn (q ▸ ha)⟩
    · exact h.nd
  · rcases rAdd_mem.1 hx with q | ⟨rfl, q⟩
    · exact h.inl x q
    · exact q
theorem rAdds_mem : ∀ {ds met : List (List UInt8)} {x : List UInt8}, x ∈ rAdds l met ds ↔ x ∈ met ∨ (x ∈ ds ∧ bAt l x < l.length)
  | [], met, x => by simp [rAdds]
  | d :: r, met, x => by
    show x ∈ rAdds l (rAdd l met d) r ↔ _
    rw [rAdds_mem, rAdd_mem, List.mem_cons]
    constructor
    · rintro ((h | ⟨h1, h2⟩) | ⟨h1, h2⟩)
      · exact .inl h
      · exact .inr ⟨.inl h1, by rw [h1]; exact h2⟩
      · exact .inr ⟨.inr h1, h2⟩
    · rintro (h | ⟨h1 | h1, h2⟩)
      · exact .inl (.inl h)
      · exact .inl (.inr ⟨h1, by rw [← h1]; exact h2⟩)
      · exact .inr ⟨h1, h2⟩
theorem Met.adds : ∀ {ds met : List (List UInt8)}, Met l met → Met l (rAdds l met ds)
  | [], _, h => h
  | d :: r, _, h => Met.adds (ds := r) (h.add d)
/-- what is met stands where it stood -/
theorem rAdd_pre (met : List (List UInt8)) (d : List UInt8) : met <+: rAdd l met d := by
  unfold rAdd
  split
  · exact List.prefix_append _ _
  · exact List.prefix_refl _
theorem rAdds_pre : ∀ (ds met : List (List UInt8)), met <+: rAdds l met ds
  | [], _ => List.prefix_refl _
  | d :: r, met => (rAdd_pre met d).trans (rAdds_pre r (rAdd l met d))
/-- a digest that is come to from the digests ds -/
inductive Rch (l : List Bl) (P : Bl → List (List UInt8)) (ds : List (List UInt8)) : List UInt8 → Prop
  | here {d : List UInt8} : d ∈ ds → bAt l d < l.length → Rch l P ds d
  | next {d e : List UInt8} : Rch l P ds d → e ∈ rPar l P d → bAt l e < l.length → Rch l P ds e
theorem rGo_end {f i : Nat} {met : List (List UInt8)} (h : ¬ i < met.length) : rGo l P f met i = met := by
  cases f with
  | zero => rfl
  | succ f => rw [rGo, dif_neg h]
theorem rGo_step {f i : Nat} {met : List (List UInt8)} (h : i < met.length) : rGo l P (f + 1) met i = rGo l P f (rAdds l met (rPar l P met[i])) (i + 1) := by
  rw [rGo, dif_pos h]
theorem rGo_met : ∀ (f : Nat) {met : List (List UInt8)} {i : Nat}, Met l met → Met l (rGo l P f met i)
  | 0, _, _, h => h
  | f + 1, met, i, h => by
    by_cases hi : i < met.length
    · rw [rGo_step hi]; exact rGo_met f h.adds
    · rw [rGo_end hi]; exact h
/-- what is met, at the end: all that is come to, and nothing else -/
theorem rGo_rch {ds : List (List UInt8)} : ∀ (f : Nat) {met : List (List UInt8)} {i : Nat}, Met l met → l.length + 1 ≤ f + i → i ≤ met.length →
    (∀ d ∈ met, Rch l P ds d) → (∀ d ∈ ds, bAt l d < l.length → d ∈ met) → (∀ j (hj : j < met.length), j < i → ∀ e ∈ rPar l P met[j], bAt l e < l.length → e ∈ met) →
    ∀ d, d ∈ rGo l P f met i ↔ Rch l P ds d
  | f, met, i, hM, hf, hil, h1, h2, h3, d => by
    by_cases hi : i < met.length
    · have hlen := hM.len
      obtain ⟨g, rfl⟩ : ∃ g, f = g + 1 := ⟨f - 1, by omega⟩
      rw [rGo_step hi]
      have hpre := rAdds_pre (l := l) (rPar l P met[i]) met
      have hpl := hpre.length_le
      refine rGo_rch g hM.adds (by omega) (by omega) (fun x hx => ?_) (fun x hx hl => rAdds_mem.2 (.inl (h2 x hx hl))) (fun j hj hji e he hl => ?_) d
      · rcases rAdds_mem.1 hx with q | ⟨q, hl⟩
        · exact h1 x q
        · exact .next (h1 _ (List.getElem_mem hi)) q hl
      · have hjm : j < met.length := by omega
        have ej : (rAdds l met (rPar l P met[i]))[j] = met[j] := (hpre.getElem hjm).symm
        rw [ej] at he
        rcases Nat.lt_or_eq_of_le (Nat.le_of_lt_succ hji) with q | q
        · exact rAdds_mem.2 (.inl (h3 j hjm q e he hl))
        · subst q
          exact rAdds_mem.2 (.inr ⟨he, hl⟩)
    · rw [rGo_end hi]
      refine ⟨h1 d, fun h => ?_⟩
      induction h with
      | here hd hl => exact h2 _ hd hl
      | next _ he hl ih =>
        obtain ⟨j, hj, rfl⟩ := List.mem_iff_getElem.1 ih
        exact h3 j hj (by omega) _ he hl
/-- all that is met from the digests ds on -/
def rFrom (l : List Bl) (P : Bl → List (List UInt8)) (ds : List (List UInt8)) : List (List UInt8) := rGo l P (l.length + 1) (rAdds l [] ds) 0
theorem rFrom_met (ds : List (List UInt8)) : Met l (rFrom l P ds) := rGo_met _ Met.nil.adds
theorem rFrom_rch (ds : List (List UInt8)) (d : List UInt8) : d ∈ rFrom l P ds ↔ Rch l P ds d :=
  rGo_rch (l.length + 1) Met.nil.adds (by omega) (Nat.zero_le _) (fun x hx => by
    rcases rAdds_mem.1 hx with q | ⟨q, hl⟩
    · cases q
    · exact .here q hl) (fun x hx hl => rAdds_mem.2 (.inr ⟨hx, hl⟩)) (fun j _ hj => absurd hj (by omega)) d
end
end Go.Proofs.YtdbdigcpibmgjaaGreatDoor
/- The roots of a store: a plain function, and what holds of it. Nothing of the program. -/
namespace Go.Proofs.YtdbdigcpibmgjaaGreatDoor
open Go.RowKit
/-- blobs that somebody holds; the parts of entries; the roots of a store, not yet in order -/
def bRoots (l : List Bl) : List (List UInt8) := (l.filter fun b => decide (0 < b.pn)).map Bl.dg
def eRoots (l : List En) : List (List UInt8) := l.flatMap fun e => e.ps.map Prt.dg
def roots (l : List Bl) (es : List En) : List (List UInt8) := bRoots l ++ eRoots es
theorem bRoots_step {l : List Bl} {k : Nat} (h : k < l.length) : bRoots (l.take (k + 1)) = bRoots (l.take k) ++ (if 0 < l[k].pn then [l[k].dg] else []) := by
  unfold bRoots
  rw [List.take_succ_eq_append_getElem h, List.filter_append, List.map_append]
  congr 1
  by_cases hp : 0 < l[k].pn <;> simp [hp]
theorem eRoots_step {l : List En} {k : Nat} (h : k < l.length) : eRoots (l.take (k + 1)) = eRoots (l.take k) ++ l[k].ps.map Prt.dg := by
  unfold eRoots
  rw [List.take_succ_eq_append_getElem h, List.flatMap_append]; simp
theorem bRoots_pre (l : List Bl) (k : Nat) : (bRoots (l.take k)).length ≤ (bRoots l).length := by
  unfold bRoots
  rw [List.length_map, List.length_map]
  exact (List.Sublist.filter _ (List.take_sublist _ _)).length_le
theorem eRoots_pre (l : List En) (k : Nat) : (eRoots (l.take k)).length ≤ (eRoots l).length := by
  have h : eRoots l = eRoots (l.take k) ++ eRoots (l.drop k) := by unfold eRoots; rw [← List.flatMap_append, List.take_append_drop]
  rw [h, List.length_append]; omega
theorem mem_roots {l : List Bl} {es : List En} {d : List UInt8} : d ∈ roots l es ↔ (∃ b ∈ l, 0 < b.pn ∧ b.dg = d) ∨ ∃ e ∈ es, ∃ p ∈ e.ps, p.dg = d := by
  unfold roots bRoots eRoots
  simp only [List.mem_append, List.mem_map, List.mem_filter, List.mem_flatMap, decide_eq_true_eq]
  constructor
  · rintro (⟨b, ⟨h1, h2⟩, h3⟩ | h)
    · exact .inl ⟨b, h1, h2, h3⟩
    · exact .inr h
  · rintro (⟨b, h1, h2, h3⟩ | h)
    · exact .inl ⟨b, ⟨h1, h2⟩, h3⟩
    · exact .inr h
end Go.Proofs.YtdbdigcpibmgjaaGreatDoor
/- slices.Equal over texts, where they are the same. -/
namespace Go.Proofs.YtdbdigcpibmgjaaGreatDoor
open Go.RowKit
set_option maxRecDepth 100000 in
set_option maxHeartbeats 1000000 in
theorem equalT_eq (A B : Option Addr) (n c m d : Nat) (l : List (List UInt8)) (w : World) (hr : Rd w 1 A n c (l.map sv)) (hs : Rd w 1 B m d (l.map sv)) :
    Calls Tryz.prog 36 #[.slice A n c, .slice B m d] w fun e w' => e = .returned (.bool true) ∧ Below w.heap.size w w' := by
  obtain rfl := hr.tlen
  obtain rfl := hs.tlen
  have hcm := hr.2.1
  have hcx := hr.2.2.1
  have hcm2 := hs.2.1
  have hcx2 := hs.2.2.1
  unfold maxLen at hcx hcx2
  go_enter Tryz.func36, Tryz.ntmps36
  go_wp2
  go_loopw [13] (fun i wr => ∃ k nn : Nat, k ≤ l.length ∧ i = .int .i64 k ∧ wr = w.drewN nn) (fun i _ => l.length - (intOf i).toNat)
  case atStart => exact ⟨0, 0, Nat.zero_le _, rfl, rfl⟩
  case round =>
    obtain ⟨k, nn, hk, rfl, rfl⟩ := hrel
    by_cases hlt : k < l.length
    · obtain ⟨b, off, rfl, hc0⟩ := hr.text hlt
      obtain ⟨b2, off2, rfl, hc1⟩ := hs.text hlt
      have hki : (k : Int) < (l.length : Int) := by omega
      generalize l[k] = x at *
      have d1 : (x == x) = true := by simp
      go_wp2
      go_quiet (fail)
      go_wp2
      go_roundw
      case rel => exact ⟨k + 1, nn + nq, by omega, by go_num, by first | rfl | exact World.drewN_drewN _ _ _⟩
      case measure => simp [intOf] <;> omega
    · have hd2 : decide ((k : Int) < (l.length : Int)) = false := by rw [decide_eq_false_iff_not]; omega
      go_wp2
      go_ret
      exact ⟨rfl, below_drewN (Below.refl _ _) _⟩
end Go.Proofs.YtdbdigcpibmgjaaGreatDoor
/- The statements' own sameTexts, of texts that are the same. -/
namespace Go.Proofs.YtdbdigcpibmgjaaGreatDoor
open Go.RowKit
set_option maxRecDepth 100000 in
set_option maxHeartbeats 400000 in
theorem sameTexts_eq (A B : Option Addr) (n c m d : Nat) (l : List (List UInt8)) (w : World) (hr : Rd w 1 A n c (l.map sv)) (hs : Rd w 1 B m d (l.map sv)) :
    Calls Tryz.prog 13 #[.slice A n c, .slice B m d] w fun e w' => e = .returned (.bool true) ∧ Below w.heap.size w w' := by
  have H := Lib.hid (equalT_eq A B n c m d l w hr hs)
  go_enter Tryz.func13, Tryz.ntmps13
  go_wp2_with fail
  with_reducible refine H.out.mono ?_
  rintro e w' ⟨rfl, hb⟩
  go_wp2
  go_ret
  exact ⟨rfl, hb⟩
end Go.Proofs.YtdbdigcpibmgjaaGreatDoor
/- Slices of texts of the program's that came in. -/
namespace Go.Proofs.YtdbdigcpibmgjaaGreatDoor
open Go.RowKit
/-- texts as things without slices of their own -/
def kTx : Kin (List UInt8) Unit where
  size := 1
  cells b _ := [.string (str b)]
  deep _ _ _ := True
  blocks _ := []
  pos := by omega
  len _ _ := rfl
  one := fun _ _ v hv => by
    rw [List.mem_singleton] at hv
    subst hv; rfl
  keep _ _ := trivial
theorem kTx_all : ∀ hs : List (List UInt8 × Unit), kTx.all hs = (hs.map Prod.fst).map sv
  | [] => rfl
  | x :: r => by rw [Kin.all_cons, kTx_all r]; rfl
theorem KRd.texts {w : World} {A : Option Addr} {n c : Nat} {l : List (List UInt8)} (h : KRd kTx w A n c l) : Rd w 1 A n c (l.map sv) := by
  obtain ⟨hs, rfl, hr, _⟩ := h
  rw [kTx_all] at hr
  exact hr
set_option maxRecDepth 100000 in
theorem trod_texts {H : Type} {enc : TypeId × Value → H} {W : World} {A : Option Addr} {n c : Nat} {d : DataW H} {p : List MemPlace} (h : DataW.Trod enc Tryz.prog W 0 (fun _ => true) true 26 (.slice A n c) d p)
    (hsz : ∀ n ∈ d.weights Tryz.prog 26, n ≤ reachBytes) :
    ∃ l : List (List UInt8), Rd W 1 A n c (l.map sv) ∧ (∀ t ∈ l, t.length ≤ maxLen) ∧ (A = none → c = 0) ∧ n * 16 ≤ 140737488351232 := by
  obtain ⟨fuel, hf⟩ := h
  obtain ⟨A', n', c', l, hcs, hr, hg, hA, hz⟩ := open_kin kTx Tryz.underlying26 (by kernel_rfl) (fun t : List UInt8 => t.length ≤ maxLen) (fun fuel cs y hl _ ht => by
    obtain ⟨s0, q0, _, z0⟩ := DataW.trod_string Tryz.underlying9 ht
    obtain ⟨m0, rfl⟩ := str_of s0
    exact ⟨m0, (), q0, trivial, z0⟩) hf hsz
  simp [Value.cells] at hcs
  obtain ⟨rfl, rfl, rfl⟩ := hcs
  have hby : Tryz.prog.bytesOf 9 = 16 := by kernel_rfl
  rw [hby] at hz
  unfold reachBytes at hz
  exact ⟨l, hr.texts, hg, hA, hz⟩
end Go.Proofs.YtdbdigcpibmgjaaGreatDoor
/- What the bulk of what came in bounds. -/
namespace Go.Proofs.YtdbdigcpibmgjaaGreatDoor
open Go.RowKit
section
variable {H : Type}
theorem bulk_one (d : DataW H) : 1 ≤ Rows.uptoBulk d := by
  cases d with
  | lit l => cases l <;> simp [Rows.uptoBulk]
  | nil => simp [Rows.uptoBulk]
  | ptr d => simp [Rows.uptoBulk]
  | slice elems spare => simp [Rows.uptoBulk]
  | agg parts => simp [Rows.uptoBulk]
  | iface t d => simp [Rows.uptoBulk]
  | map entries => simp [Rows.uptoBulk]
  | held h => simp [Rows.uptoBulk]
theorem bulk_sum : ∀ l : List (DataW H), Rows.uptoBulkAll l = (l.map Rows.uptoBulk).sum
  | [] => by simp [Rows.uptoBulkAll]
  | d :: r => by rw [Rows.uptoBulkAll, bulk_sum r, List.map_cons, List.sum_cons]
theorem bulk_len (l : List (DataW H)) : l.length ≤ Rows.uptoBulkAll l := by
  induction l with
  | nil => simp [Rows.uptoBulkAll]
  | cons x r ih => have := bulk_one x; simp only [Rows.uptoBulkAll, List.length_cons]; omega
end
theorem bulk_sl {H : Type} {enc : TypeId × Value → H} {W : World} {t e : TypeId} (ht : Tryz.prog.underlying t = some (.slice e)) {A : Option Addr} {n c : Nat} {d : DataW H} {p : List MemPlace} (h : DataW.Trod enc Tryz.prog W 0 (fun _ => true) true t (.slice A n c) d p) : n ≤ Rows.uptoBulk d := by
  obtain ⟨fuel, hf⟩ := h
  rw [show (Value.slice A n c).cells.toList = [.slice A n c] from rfl] at hf
  rcases Deep.open_slice ht hf with ⟨e1, hx⟩ | ⟨a, len, cap, m, nn, D, Pl, e1, hb, hl, hm, hmm, hx, _⟩
  · simp only [List.cons.injEq, Value.slice.injEq, and_true] at e1
    obtain ⟨_, rfl, _⟩ := e1
    exact Nat.zero_le _
  · simp only [List.cons.injEq, Value.slice.injEq, and_true] at e1
    obtain ⟨rfl, rfl, rfl⟩ := e1
    have hlm : n ≤ m := by rw [hmm]; split <;> omega
    have e2 : d = (d, p).1 := rfl
    rw [e2, hx]
    simp only [Rows.uptoBulk]
    have h1 := bulk_len ((List.range n).map D)
    rw [List.length_map, List.length_range] at h1
    omega
end Go.Proofs.YtdbdigcpibmgjaaGreatDoor
