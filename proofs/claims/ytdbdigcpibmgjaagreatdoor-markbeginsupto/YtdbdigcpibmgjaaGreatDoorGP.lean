/- Texts that belong together: what the functions of the program and of the statements return. -/
import Derived.Test.YtdbdigcpibmgjaaGreatDoorRows
import Derived.Test.YtdbdigcpibmgjaaGreatDoorGA
import Derived.Lib.Hide
import Derived.IntWalk
import Derived.Test.YtdbdigcpibmgjaaGreatDoorGO
import Derived.Test.YtdbdigcpibmgjaaGreatDoorGK
import Derived.Test.YtdbdigcpibmgjaaGreatDoorGB
import Derived.Test.YtdbdigcpibmgjaaGreatDoorQShg
import Derived.Test.YtdbdigcpibmgjaaGreatDoorGN
/- Chapter 7: the program's pin.Check. -/
namespace Go.Proofs.YtdbdigcpibmgjaaGreatDoor
open Go.RowKit
/-- what the check of a count answers -/
def Ck (n e : Int) : Prop := (n < 0 ∧ e = 4) ∨ (5 < n ∧ e = 4) ∨ (0 ≤ n ∧ n ≤ 5 ∧ e = 0)
theorem ck_some (n : Int) : ∃ e, Ck n e := by
  unfold Ck
  by_cases h : n < 0
  · exact ⟨4, .inl ⟨h, rfl⟩⟩
  · by_cases h5 : 5 < n
    · exact ⟨4, .inr (.inl ⟨h5, rfl⟩)⟩
    · exact ⟨0, .inr (.inr ⟨by omega, by omega, rfl⟩)⟩
set_option maxRecDepth 100000 in
set_option maxHeartbeats 400000 in
theorem pcheck_at (n e : Int) (w : World) (h : Ck n e) : Calls Tryz.prog 147 #[.int .i64 n] w fun x w' => x = .returned (.int .i64 e) ∧ w = w' := by
  rcases h with ⟨h, rfl⟩ | ⟨h, rfl⟩ | ⟨h, h5, rfl⟩
  · go_enter Tryz.func147, Tryz.ntmps147
    go_wp2
    go_ret
    exact ⟨rfl, rfl⟩
  · have h0 : ¬ n < 0 := by omega
    go_enter Tryz.func147, Tryz.ntmps147
    go_wp2
    go_ret
    exact ⟨rfl, rfl⟩
  · have h0 : ¬ n < 0 := by omega
    have h6 : ¬ 5 < n := by omega
    go_enter Tryz.func147, Tryz.ntmps147
    go_wp2
    go_ret
    exact ⟨rfl, rfl⟩
end Go.Proofs.YtdbdigcpibmgjaaGreatDoor
/- The landed blob.digestOf and blob.Right. -/
namespace Go.Proofs.YtdbdigcpibmgjaaGreatDoor
open Go.RowKit
/-- the digest of bytes that a blob may have: the error, the digest -/
def dOf (b : List UInt8) : Int × List UInt8 := if 300 < b.length then (1, []) else (0, dig b)
set_option maxRecDepth 100000 in
set_option maxHeartbeats 400000 in
theorem digestOf_big (A : Option Addr) (n c : Nat) (l : List UInt8) (w : World) (hr : Rd w 1 A n c (l.map bv8)) (h : 300 < n) :
    Calls Tryz.prog 146 #[.slice A n c] w fun e w' => e = .returned (.tuple #[.string (str []), .int .i64 1]) ∧ w = w' := by
  have hcm := hr.2.1
  have hcx := hr.2.2.1
  unfold maxLen at hcx
  have z1 : decide (300 < (n : Int)) = true := by simp; omega
  clear hr
  go_enter Tryz.func146, Tryz.ntmps146
  go_wp2
  go_ret2
  exact ⟨rfl, rfl⟩
set_option maxRecDepth 100000 in
set_option maxHeartbeats 400000 in
theorem digestOf_ok (A : Option Addr) (n c : Nat) (l : List UInt8) (w : World) (hK : Kon w) (hr : Rd w 1 A n c (l.map bv8)) (h : n ≤ 300) :
    Calls Tryz.prog 146 #[.slice A n c] w fun e w' => e = .returned (.tuple #[.string (str (dig l)), .int .i64 0]) ∧ Below w.heap.size w w' := by
  have z1 : decide (300 < (n : Int)) = false := by simp; omega
  generalize hdd : dig l = dd
  have HD := Lib.hid hdd
  clear hdd
  go_enter Tryz.func146, Tryz.ntmps146
  go_wp2_with fail
  with_reducible refine (sum_ok _ _ _ l _ hK hr (by omega)).mono ?_
  rw [HD.out]
  rintro e w1 ⟨rfl, hb1⟩
  go_wp2
  go_ret2
  exact ⟨rfl, hb1⟩
theorem digestOf_any (A : Option Addr) (n c : Nat) (l : List UInt8) (w : World) (hK : Kon w) (hr : Rd w 1 A n c (l.map bv8)) :
    Calls Tryz.prog 146 #[.slice A n c] w fun e w' => e = .returned (.tuple #[.string (str (dOf l).2), .int .i64 (dOf l).1]) ∧ Below w.heap.size w w' := by
  have hl := hr.len
  by_cases h : 300 < n
  · rw [show dOf l = (1, []) from if_pos (by omega)]
    refine (digestOf_big A n c l w hr h).mono ?_
    rintro e w' ⟨rfl, rfl⟩
    exact ⟨rfl, Below.refl _ _⟩
  · rw [show dOf l = (0, dig l) from if_neg (by omega)]
    exact digestOf_ok A n c l w hK hr (by omega)
theorem ck_of (n : Int) : Ck n (if n < 0 ∨ 5 < n then 4 else 0) := by
  by_cases h : n < 0 ∨ 5 < n
  · rw [if_pos h]
    rcases h with h | h
    · exact .inl ⟨h, rfl⟩
    · exact .inr (.inl ⟨h, rfl⟩)
  · rw [if_neg h]
    exact .inr (.inr ⟨by omega, by omega, rfl⟩)
set_option maxRecDepth 100000 in
set_option maxHeartbeats 1000000 in
theorem right_any (b : Bl) (D : Option Addr) (m d : Nat) (w : World) (hK : Kon w) (hr : Rd w 1 D m d (b.dt.map bv8)) (hg : b.good) :
    Calls Tryz.prog 98 #[.agg #[.string (str b.dg), .slice D m d, .int .i64 b.pn, .bool b.mr]] w fun e w' => e = .returned (.int .i64 (bErr b)) ∧ Below w.heap.size w w' := by
  obtain ⟨er, her⟩ : ∃ er, Hid (bErr b = er) := ⟨_, rfl⟩
  rw [her.out]
  obtain ⟨g0, g1, -⟩ := hg
  have HL := Lib.hid hr.len
  have hal := (Below.refl w.heap.size w).alloc (Nat.le_refl _) (.cells #[.string (str b.dg), .slice D m d, .int .i64 b.pn, .bool b.mr] 45)
  have hbk := Blk.new w 45 [.string (str b.dg), .slice D m d, .int .i64 b.pn, .bool b.mr]
  have HB : Hid (bErr b = if cErr b.dg ≠ 0 then cErr b.dg else if 300 < b.dt.length then 1 else if dig b.dt ≠ b.dg then 9 else if b.pn < 0 ∨ 5 < b.pn then 4 else 0) := rfl
  rw [her.out] at HB
  have HCK := Lib.hid (ck_of b.pn)
  obtain ⟨dgs, dts, pn, mr⟩ := b
  simp only at *
  have hr1 := hr.below hal
  have hK1 := hK.below hal
  have e0 := hbk.cell 0
  have e1 := hbk.cell 1
  have e2 := hbk.cell 2
  simp only [List.getElem?_cons_succ, List.getElem?_cons_zero] at e0 e1 e2
  clear hr hK
  go_enter Tryz.func98, Tryz.ntmps98
  go_wp2_with fail
  with_reducible refine (hcheck_all _ _ g0).mono ?_
  rintro e w1 ⟨rfl, rfl⟩
  by_cases hc : cErr dgs = 0
  · have c1 : (cErr dgs != 0) = false := by rw [bne_eq_false_iff_eq]; exact hc
    have hB := HB.out
    rw [if_neg (by omega)] at hB
    have HC := Lib.hid hB
    clear hc hB HB
    by_cases hz : 300 < m
    · have HF : Hid (er = 1) := by show _ = _; rw [HC.out, if_pos (by rw [← HL.out]; exact hz)]
      clear HC
      go_wp2_with fail
      with_reducible refine (digestOf_big _ _ _ _ _ hr1 hz).mono ?_
      rintro e w2 ⟨rfl, rfl⟩
      clear hz
      go_wp2
      go_ret
      exact ⟨ret_int HF.out.symm, hal⟩
    · have hB := HC.out
      rw [if_neg (by rw [← HL.out]; exact hz)] at hB
      have HD := Lib.hid hB
      clear hB HC
      go_wp2_with fail
      with_reducible refine (digestOf_ok _ _ _ dts _ hK1 hr1 (by omega)).mono ?_
      rintro e w2 ⟨rfl, hb2⟩
      have hbk2 := hbk.below hb2 hbk.lt
      have hbB := below_step hal hb2
      clear e0 e1 e2 hbk hal hb2 hr1 hK1 hz
      have e0 := hbk2.cell 0
      have e2 := hbk2.cell 2
      simp only [List.getElem?_cons_succ, List.getElem?_cons_zero] at e0 e2
      by_cases hs : dig dts = dgs
      · have s1 : (dgs == dig dts) = true := by rw [beq_iff_eq]; exact hs.symm
        have hB := HD.out
        rw [if_neg (by simpa using hs)] at hB
        have HE := Lib.hid hB
        generalize dig dts = dd at *
        clear hB HD hs
        go_wp2_with fail
        with_reducible refine (pcheck_at _ _ _ HCK.out).mono ?_
        rw [← HE.out]
        rintro e w3 ⟨rfl, rfl⟩
        go_wp2
        go_ret
        exact ⟨rfl, hbB⟩
      · have s1 : (dgs == dig dts) = false := by rw [beq_eq_false_iff_ne]; exact fun q => hs q.symm
        have HF : Hid (er = 9) := by show _ = _; rw [HD.out, if_pos hs]
        generalize dig dts = dd at *
        clear HD hs
        go_wp2
        go_ret
        exact ⟨ret_int HF.out.symm, hbB⟩
  · have c1 : (cErr dgs != 0) = true := by rw [bne_iff_ne]; exact hc
    have HF : Hid (er = cErr dgs) := by show _ = _; rw [HB.out, if_pos hc]
    clear hc HB
    go_wp2
    go_ret
    exact ⟨ret_int HF.out.symm, hal⟩
end Go.Proofs.YtdbdigcpibmgjaaGreatDoor
/- slices.IndexFunc over blobs, whatever the closure. -/
namespace Go.Proofs.YtdbdigcpibmgjaaGreatDoor
open Go.RowKit Go.Shelf
/-- the cells of a list of things that is not empty, one by one -/
theorem KRd.cellsAt {α η : Type} [Inhabited α] [Inhabited η] {K : Kin α η} {w : World} {A : Option Addr} {n c : Nat} {l : List α} (h : KRd K w A n c l) (hn : 0 < n) :
    ∃ (b off : Nat) (hs : List (α × η)), A = some ⟨b, off, none⟩ ∧ hs.map Prod.fst = l ∧ hs.length = n ∧ b < w.heap.size ∧ (∀ j, j < hs.length → ∀ i v, (K.cells hs[j]!.1 hs[j]!.2)[i]? = some v → w.cell? ⟨b, off + j * K.size + i, none⟩ = some v) ∧ ∀ x ∈ hs, K.deep w x.1 x.2 := by
  have hl := h.len
  obtain ⟨hs, rfl, hr, hd⟩ := h
  rw [List.length_map] at hl
  obtain ⟨b, off, rfl, hc⟩ := hr.2.2.2 (by rw [K.all_length, ← hl]; exact Nat.mul_pos hn K.pos)
  have hcell : ∀ j, j < hs.length → ∀ i v, (K.cells hs[j]!.1 hs[j]!.2)[i]? = some v → w.cell? ⟨b, off + j * K.size + i, none⟩ = some v := fun j hj i v hv => by
    have hi : i < K.size := by have := (List.getElem?_eq_some_iff.1 hv).1; rwa [K.len] at this
    rw [Nat.add_assoc]
    refine hc _ _ ?_
    rw [K.all_at hs j hj i hi, ← hv, getElem!_pos hs j hj]
  refine ⟨b, off, hs, rfl, rfl, hl.symm, ?_, hcell, hd⟩
  obtain ⟨v0, hv0⟩ : ∃ v, (K.cells hs[0]!.1 hs[0]!.2)[0]? = some v := ⟨_, List.getElem?_eq_getElem (by rw [K.len]; exact K.pos)⟩
  exact cell_lt (hcell 0 (by omega) 0 v0 hv0)
theorem any_fst {α η : Type} (hs : List (α × η)) (p : α → Bool) : hs.any (fun x => p x.1) = (hs.map Prod.fst).any p := by rw [List.any_map]; rfl
/-- the first place, or -1 -/
def plc {α : Type} (l : List α) (p : α → Bool) : Int := if l.findIdx p < l.length then (l.findIdx p : Int) else -1
theorem idxBy_plc {α η : Type} [Inhabited α] [Inhabited η] (hs : List (α × η)) (p : α → Bool) : Lib.idxBy (fun _ (y : α × η) => p y.1) (hs.take hs.length) default = plc (hs.map Prod.fst) p := by
  have hf : (hs.map Prod.fst).findIdx p = hs.findIdx fun x => p x.1 := by rw [List.findIdx_map]; rfl
  unfold plc
  rw [hf, List.length_map]
  by_cases h : hs.findIdx (fun x => p x.1) < hs.length
  · rw [if_pos h]
    have := Lib.idxBy_hit (fun _ (y : α × η) => p y.1) hs hs.length (hs.findIdx fun x => p x.1) default h (Nat.le_refl _) (by
      rw [getElem!_pos hs _ h]; exact List.findIdx_getElem (xs := hs) (p := fun x => p x.1) (w := h)) (fun j hj => by
      rw [getElem!_pos hs j (by omega)]
      have := List.not_of_lt_findIdx (xs := hs) (p := fun x => p x.1) hj
      simpa using this)
    exact this
  · rw [if_neg h]
    refine Lib.idxBy_miss (fun _ (y : α × η) => p y.1) hs hs.length default (fun j hj => ?_)
    have hle : hs.findIdx (fun x => p x.1) ≤ hs.length := List.findIdx_le_length
    rw [getElem!_pos hs j (by omega)]
    have := List.not_of_lt_findIdx (xs := hs) (p := fun x => p x.1) (i := j) (by omega)
    simpa using this
set_option maxRecDepth 100000 in
set_option maxHeartbeats 400000 in
theorem indexB_none (A : Option Addr) (c : Nat) (f : Value) (w : World) :
    Calls Tryz.prog 82 #[.slice A 0 c, f] w fun e w' => e = .returned (.int .i64 (-1)) ∧ w' = w := by
  go_enter Tryz.func82, Tryz.ntmps82
  go_wp2
  go_loop [5, 8] (fun _ i => i = .int .i64 0) (fun _ _ => 0)
  case atStart => rfl
  case round =>
    subst hrel
    go_wp2
    go_ret
    exact ⟨rfl, rfl⟩
/-- a closure that tells of each blob whether p holds -/
def TellsB (w : World) (g : Nat) (lb : Array Value) (p : Bl → Bool) : Prop :=
  PredBelow Tryz.prog g lb (fun x : Bl × Hd => .agg (kBl.cells x.1 x.2).toArray) (fun x => p x.1) w
theorem indexB_any (A : Option Addr) (n c : Nat) (l : List Bl) (w : World) (hr : KRd kBl w A n c l) (p : Bl → Bool) (g : Nat) (lb : Array Value)
    (eg : ∀ args w, (callFunc g args).run Tryz.prog w = .ok (.enter g args) w) (hp : TellsB w g lb p) :
    Calls Tryz.prog 82 #[.slice A n c, .func (.func g) #[] lb] w fun e w' => e = .returned (.int .i64 (plc l p)) ∧ Below w.heap.size w w' := by
  rcases Nat.eq_zero_or_pos n with h0 | h0
  · subst h0
    have hl : l = [] := List.eq_nil_of_length_eq_zero hr.len.symm
    subst hl
    refine (indexB_none A c _ w).mono ?_
    rintro e w' ⟨rfl, rfl⟩
    exact ⟨rfl, Below.refl _ _⟩
  · have hcap := hr.cap
    unfold maxLen at hcap
    obtain ⟨b, off, hs, rfl, rfl, hl, hb, hc, -⟩ := hr.cellsAt h0
    have h := AnyQ.slices_IndexFunc Tryz.lay_IndexFunc_Blob 4 Tryz.isAgg45 Tryz.sizeOf45 (fun x : Bl × Hd => kBl.cells x.1 x.2) (fun _ => rfl) (fun x => p x.1) g lb eg b off n c hs w hp (by omega) (by omega) hb hc
    rw [← hl, idxBy_plc] at h
    rw [← hl]
    exact h
end Go.Proofs.YtdbdigcpibmgjaaGreatDoor
/- The landed blob.Check and blob.Find. -/
namespace Go.Proofs.YtdbdigcpibmgjaaGreatDoor
open Go.RowKit Go.Shelf
set_option maxRecDepth 100000 in
set_option maxHeartbeats 400000 in
theorem bcheck_big (A : Option Addr) (n c : Nat) (w : World) (h : 24 < n) (hn : n ≤ 9223372036854775807) :
    Calls Tryz.prog 63 #[.slice A n c] w fun e w' => e = .returned (.int .i64 1) ∧ w = w' := by
  go_enter Tryz.func63, Tryz.ntmps63
  go_wp2
  go_ret
  exact ⟨rfl, rfl⟩
set_option maxRecDepth 100000 in
set_option maxHeartbeats 2000000 in
theorem bcheck_in (A : Option Addr) (n c : Nat) (l : List Bl) (w : World) (hK : Kon w) (hr : KRd kBl w A n c l) (hg : ∀ p ∈ l, p.good) (h24 : n ≤ 24) :
    Calls Tryz.prog 63 #[.slice A n c] w fun e w' => e = .returned (.int .i64 (bTail [] l)) ∧ Below w.heap.size w w' := by
  obtain rfl := hr.len
  have hd : decide (24 < (l.length : Int)) = false := by simp; omega
  have HG := Lib.hid hg
  obtain ⟨er, her⟩ : ∃ er, Hid (bTail [] l = er) := ⟨_, rfl⟩
  rw [her.out]
  clear hg
  go_enter Tryz.func63, Tryz.ntmps63
  go_wp2
  go_loopw [3, 5, 6, 12] (fun s _ _ i wr => ∃ (k : Nat) (m : List UInt8), k ≤ l.length ∧ i = .int .i64 k ∧ s = .string (str m) ∧ Hid (er = bTail m (l.drop k)) ∧ Below w.heap.size w wr) (fun _ _ _ i _ => l.length - (intOf i).toNat)
  case atStart => exact ⟨0, [], Nat.zero_le _, rfl, rfl, her.out.symm, Below.refl _ _⟩
  case round =>
    obtain ⟨k, m, hk, rfl, rfl, HE, hbel⟩ := hrel
    by_cases hlt : k < l.length
    · obtain ⟨b, off, D, dn, dc, rfl, hc0, hc1, hc2, hc3, hrD, hDn⟩ := (hr.below hbel).blob hlt
      have hgk := HG.out l[k] (List.getElem_mem hlt)
      have hdk : l.drop k = l[k] :: l.drop (k + 1) := List.drop_eq_getElem_cons hlt
      have HP : Hid (er = bTail m (l[k] :: l.drop (k + 1))) := by show _ = _; rw [← hdk]; exact HE.out
      have hki : (k : Int) < (l.length : Int) := by omega
      clear hdk HE
      generalize l[k] = p at *
      have hal := (Below.refl wr.heap.size wr).alloc (Nat.le_refl _) (.cells #[.string (str p.dg), .slice D dn dc, .int .i64 p.pn, .bool p.mr] 45)
      have hbk := Blk.new wr 45 [.string (str p.dg), .slice D dn dc, .int .i64 p.pn, .bool p.mr]
      go_wp2_with fail
      with_reducible refine (right_any p _ _ _ _ ((hK.below hbel).below hal) (hrD.below hal) hgk).mono ?_
      rintro e w1 ⟨rfl, hb1⟩
      have hbk1 := hbk.below hb1 hbk.lt
      have hbA := below_step hbel (hal.trans (hb1.mono (by simp)))
      have e0 := hbk1.cell 0
      simp only [List.getElem?_cons_zero] at e0
      clear hbk hal hc0 hc1 hc2 hc3 hrD
      by_cases hn : bErr p = 0
      · have n1 : (bErr p != 0) = false := by rw [bne_eq_false_iff_eq]; exact hn
        have HN := Lib.hid hn
        clear hn
        by_cases hle : (Op.bytesLess p.dg m || p.dg == m) = true
        · have HF : Hid (er = 6) := by show _ = _; rw [HP.out, bTail, if_neg (by rw [HN.out]; omega), if_pos (by unfold nle; exact hle)]
          go_wp2
          go_ret
          exact ⟨ret_int HF.out.symm, hbA⟩
        · have hle' : (Op.bytesLess p.dg m || p.dg == m) = false := by simpa using hle
          have HF : Hid (er = bTail p.dg (l.drop (k + 1))) := by
            show _ = _
            rw [HP.out, bTail, if_neg (by rw [HN.out]; omega), if_neg (by unfold nle; exact hle)]
          clear hle
          go_wp2
          go_roundw
          case rel => exact ⟨k + 1, p.dg, by omega, by go_num, rfl, HF.out, hbA⟩
          case measure => simp [intOf] <;> omega
      · have n1 : (bErr p != 0) = true := by rw [bne_iff_ne]; exact hn
        have HF : Hid (er = bErr p) := by show _ = _; rw [HP.out, bTail, if_pos hn]
        clear hn
        go_wp2
        go_ret
        exact ⟨ret_int HF.out.symm, hbA⟩
    · have hd2 : decide ((k : Int) < (l.length : Int)) = false := by simp; omega
      have HF : Hid (er = 0) := by show _ = _; rw [HE.out, List.drop_of_length_le (by omega)]; rfl
      go_wp2
      go_ret
      exact ⟨ret_int HF.out.symm, hbel⟩
theorem bcheck_any (A : Option Addr) (n c : Nat) (l : List Bl) (w : World) (hK : Kon w) (hr : KRd kBl w A n c l) (hg : ∀ p ∈ l, p.good) :
    Calls Tryz.prog 63 #[.slice A n c] w fun e w' => e = .returned (.int .i64 (bsErr l)) ∧ Below w.heap.size w w' := by
  have hn := hr.len
  have hc := hr.cap
  unfold maxLen at hc
  by_cases h : 24 < n
  · rw [show bsErr l = 1 from if_pos (by omega)]
    refine (bcheck_big A n c w h (by omega)).mono ?_
    rintro e w' ⟨rfl, rfl⟩
    exact ⟨rfl, Below.refl _ _⟩
  · rw [show bsErr l = bTail [] l from if_neg (by omega)]
    exact bcheck_in A n c l w hK hr hg (by omega)
set_option maxRecDepth 100000 in
set_option maxHeartbeats 400000 in
theorem find1_tells (d : List UInt8) (g : Nat) (w : World) (hg : g < w.heap.size) (hc : w.cell? ⟨g, 0, none⟩ = some (.string (str d))) : TellsB w 83 #[.pointer (some ⟨g, 0, none⟩)] (fun b => b.dg == d) := fun W x hb => by
  have hcW : W.cell? ⟨g, 0, none⟩ = some (.string (str d)) := (hb.cell (p := ⟨g, 0, none⟩) hg).trans hc
  have hgW : g < W.heap.size := Nat.lt_of_lt_of_le hg hb.size
  have hne : g ≠ W.heap.size := by omega
  obtain ⟨⟨d1, t1, p1, m1⟩, ⟨A1, n1, c1⟩⟩ := x
  show Calls Tryz.prog 83 #[.agg #[.string (str d1), .slice A1 n1 c1, .int .i64 p1, .bool m1], .pointer (some ⟨g, 0, none⟩)] W fun e w' => e = .returned (.bool (d1 == d)) ∧ _
  go_enter Tryz.func83, Tryz.ntmps83
  go_wp2
  go_ret
  exact ⟨rfl, hb.alloc hb.size _⟩
/-- what finding answers -/
def fErr (l : List Bl) (d : List UInt8) : Int := if bAt l d < l.length then 0 else 5
def fAt (l : List Bl) (d : List UInt8) : Nat := if bAt l d < l.length then bAt l d else 0
set_option maxRecDepth 100000 in
set_option maxHeartbeats 400000 in
theorem find_any (A : Option Addr) (n c : Nat) (l : List Bl) (d : List UInt8) (w : World) (hr : KRd kBl w A n c l) :
    Calls Tryz.prog 38 #[.slice A n c, .string (str d)] w fun e w' => e = .returned (.tuple #[.int .i64 (fAt l d : Int), .int .i64 (fErr l d)]) ∧ Below w.heap.size w w' := by
  have hal := (Below.refl w.heap.size w).alloc (Nat.le_refl _) (.cells #[.string (str d)] 9)
  have hk := Blk.new w 9 [.string (str d)]
  have k0 := hk.cell 0
  simp only [List.getElem?_cons_zero] at k0
  have hC := indexB_any A n c l _ (hr.below hal) (fun x => x.dg == d) _ _ (enters_of Tryz.func83 (by kernel_rfl) rfl) (find1_tells d w.heap.size _ hk.lt k0)
  unfold plc at hC
  unfold fAt fErr
  by_cases h : bAt l d < l.length
  · rw [if_pos (show l.findIdx (fun x => x.dg == d) < l.length from h)] at hC
    rw [if_pos h, if_pos h]
    have hC' : Calls Tryz.prog _ _ _ fun e w' => e = .returned (.int .i64 ((bAt l d : Nat) : Int)) ∧ Below _ _ w' := hC
    clear hr hC
    have d1 : decide (((bAt l d : Nat) : Int) < 0) = false := by simp
    generalize bAt l d = K at *
    go_enter Tryz.func38, Tryz.ntmps38
    go_wp2_with fail
    refine hC'.mono ?_
    rintro e w' ⟨rfl, hb'⟩
    go_wp2
    go_ret2
    exact ⟨rfl, below_step hal hb'⟩
  · rw [if_neg (show ¬ l.findIdx (fun x => x.dg == d) < l.length from h)] at hC
    rw [if_neg h, if_neg h]
    clear hr
    go_enter Tryz.func38, Tryz.ntmps38
    go_wp2_with fail
    refine hC.mono ?_
    rintro e w' ⟨rfl, hb'⟩
    go_wp2
    go_ret2
    exact ⟨rfl, below_step hal hb'⟩
end Go.Proofs.YtdbdigcpibmgjaaGreatDoor
