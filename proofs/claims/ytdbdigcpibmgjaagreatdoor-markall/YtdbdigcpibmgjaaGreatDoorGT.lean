/- Texts that belong together: what the functions of the program and of the statements return. -/
import Derived.Test.YtdbdigcpibmgjaaGreatDoorGV
import Derived.Test.YtdbdigcpibmgjaaGreatDoorGN
import Derived.Test.YtdbdigcpibmgjaaGreatDoorGO
import Derived.Test.YtdbdigcpibmgjaaGreatDoorGO
import Derived.Test.YtdbdigcpibmgjaaGreatDoorGS
import Derived.Test.YtdbdigcpibmgjaaGreatDoorGS
import Derived.Test.YtdbdigcpibmgjaaGreatDoorGS
import Derived.Test.YtdbdigcpibmgjaaGreatDoorGS
import Derived.Test.YtdbdigcpibmgjaaGreatDoorGH
/- The statements' own Key and Parts. -/
namespace Go.Proofs.YtdbdigcpibmgjaaGreatDoor
open Go.RowKit
/-- the key of a number -/
def keyB (n : Int) : List UInt8 := dig [107, UInt8.ofNat (pk n 7).toNat]
set_option maxRecDepth 100000 in
set_option maxHeartbeats 1000000 in
theorem key_any (n : Int) (w : World) (hw : (Lit.int .i64 n).wf = true) :
    Calls Tryz.prog 48 #[.int .i64 n] w fun e w' => e = .returned (.string (str (keyB n))) ∧ Below w.heap.size w w' := by
  obtain ⟨n0, n1⟩ := i64_range hw
  obtain ⟨a, ha, ha2⟩ := pk_nat n 7 (by omega)
  have Ha := Lib.hid ha
  have HK : Hid (keyB n = dig [107, UInt8.ofNat a]) := by show _ = _; unfold keyB; rw [ha, Int.toNat_natCast]
  have hwr : IntKind.u8.wrap (a : Int) = y8 (UInt8.ofNat a) := by rw [y8_ofNat a (by omega), IntKind.wrap_u8]; omega
  clear ha hw
  generalize UInt8.ofNat a = x at *
  have hr : Rd (w.alloc (.cells #[.int .u8 107, .int .u8 (y8 x)] 5)) 1 (some ⟨w.heap.size, 0, none⟩) 2 2 (([107, x] : List UInt8).map bv8) := new_rd w 5 [107, x] (0, 0) (by unfold maxLen; simp)
  have hal := (Below.refl w.heap.size w).alloc (Nat.le_refl _) (.cells #[.int .u8 107, .int .u8 (y8 x)] 5)
  obtain ⟨D, hD⟩ : ∃ D, dig [107, x] = D := ⟨_, rfl⟩
  have HD := Lib.hid hD
  rw [hD] at HK
  clear hD
  go_enter Tryz.func48, Tryz.ntmps48
  go_wp2_with fail
  with_reducible refine (picked_nat n 7 a _ n0 n1 (by omega) (by omega) Ha.out).mono ?_
  rintro e w' ⟨rfl, rfl⟩
  go_wp2_with fail
  with_reducible refine (digest_ok _ _ _ _ _ hr (by omega)).mono ?_
  rw [HD.out]
  rintro e w' ⟨rfl, hb⟩
  go_wp2
  go_ret
  rw [HK.out]
  exact ⟨rfl, below_step hal hb⟩
/-- which blob part i of a raw thing is -/
def pB (q : Rw) (i n : Nat) : Nat := (pk (wrap64 (q.rb + 7 * (i : Int))) n).toNat
def prt1 (bs : List Bl) (q : Rw) (i : Nat) : Prt := ⟨[112, UInt8.ofNat (97 + i)], (bs.getD (pB q i bs.length) default).dg, ((bs.getD (pB q i bs.length) default).dt.length : Int)⟩
def prtsK (bs : List Bl) (q : Rw) (k : Nat) : List Prt := if bs.length = 0 then [] else (List.range k).map (prt1 bs q)
def prts (bs : List Bl) (q : Rw) : List Prt := prtsK bs q (pk q.ra 4).toNat
theorem kpart_info : (Tryz.prog.info? 97).map (fun i => (i.zero, i.size, i.bytes)) = some (some (.agg #[.string ByteArray.empty, .string ByteArray.empty, .int .i64 0]), 3, 40) := by kernel_rfl
theorem pB_lt (q : Rw) (i n : Nat) (h : 0 < n) : pB q i n < n := by
  have := pk_range (wrap64 (q.rb + 7 * (i : Int))) n (by omega)
  unfold pB; omega
theorem prtsK_step {bs : List Bl} {q : Rw} {k : Nat} (h : 0 < bs.length) : prtsK bs q (k + 1) = prtsK bs q k ++ [prt1 bs q k] := by
  unfold prtsK
  rw [if_neg (by omega), if_neg (by omega), List.range_succ, List.map_append]; rfl
theorem prtsK_len {bs : List Bl} {q : Rw} {k : Nat} : (prtsK bs q k).length ≤ k := by
  unfold prtsK; split
  · simp
  · simp
theorem prtsK_at {bs : List Bl} {q : Rw} {k : Nat} (h : 0 < bs.length) : prt1 bs q k = ⟨[112, UInt8.ofNat (97 + k)], (bs[pB q k bs.length]'(pB_lt q k _ h)).dg, ((bs[pB q k bs.length]'(pB_lt q k _ h)).dt.length : Int)⟩ := by
  unfold prt1; rw [getD_lt (pB_lt q k _ h)]
theorem prts_round (bs : List Bl) (q : Rw) (k : Nat) (h : 0 < bs.length) : ∃ (J : Nat) (hJ : J < bs.length), pk (wrap64 (q.rb + 7 * (k : Int))) (bs.length : Int) = (J : Int) ∧ prtsK bs q (k + 1) = prtsK bs q k ++ [⟨[112, UInt8.ofNat (97 + k)], bs[J].dg, (bs[J].dt.length : Int)⟩] := by
  refine ⟨pB q k bs.length, pB_lt q k _ h, ?_, by rw [prtsK_step h, prtsK_at h]⟩
  have := pk_range (wrap64 (q.rb + 7 * (k : Int))) (bs.length : Int) (by omega)
  unfold pB; omega
@[go_sem high] theorem fold_p : (⟨#[112]⟩ : ByteArray) = str [112] := rfl
set_option maxRecDepth 100000 in
set_option maxHeartbeats 4000000 in
theorem parts_any (A : Option Addr) (n c : Nat) (bs : List Bl) (q : Rw) (w : World) (hr : KRd kBl w A n c bs) (ha : (Lit.int .i64 q.ra).wf = true) (_hb : (Lit.int .i64 q.rb).wf = true) (hz : ∀ b ∈ bs, b.dt.length ≤ 300) (h100 : n ≤ 100) :
    Calls Tryz.prog 44 #[.slice A n c, .agg #[.int .i64 q.kd, .int .i64 q.ra, .int .i64 q.rb, .string (str q.tx)]] w fun e w' =>
      ∃ v, e = .returned v ∧ w'.ownsRow w.heap.size 97 3 v (prts bs q).length (pcs (prts bs q)) ∧ Below w.heap.size w w' := by
  obtain rfl := hr.len
  have hcap := hr.cap
  unfold maxLen at hcap
  obtain ⟨i0, hi0, hz0, hz1, hz2⟩ := info_parts kpart_info
  obtain ⟨a0, a1⟩ := i64_range ha
  obtain ⟨K, hK, hK4⟩ := pk_nat q.ra 4 (by omega)
  have HK := Lib.hid hK
  have HP : Hid (prts bs q = prtsK bs q K) := by show _ = _; unfold prts; rw [hK, Int.toNat_natCast]
  have HZ := Lib.hid hz
  have hal := (Below.refl w.heap.size w).alloc (Nat.le_refl _) (.cells #[.int .i64 q.kd, .int .i64 q.ra, .int .i64 q.rb, .string (str q.tx)] 64)
  have hbk := Blk.new w 64 [.int .i64 q.kd, .int .i64 q.ra, .int .i64 q.rb, .string (str q.tx)]
  clear hK ha hz
  go_enter Tryz.func44, Tryz.ntmps44
  go_wp2_with fail
  with_reducible refine (picked_nat q.ra 4 K _ a0 a1 (by omega) (by omega) HK.out).mono ?_
  rintro e w' ⟨rfl, rfl⟩
  go_wp2
  generalize w.alloc (.cells [Value.int .i64 q.kd, .int .i64 q.ra, .int .i64 q.rb, .string (str q.tx)].toArray 64) = w1 at *
  obtain ⟨g, hg⟩ : ∃ g, w.heap.size = g := ⟨_, rfl⟩
  have HG := Lib.hid hg
  have halw := Lib.hid hal
  rw [hg] at hbk hal ⊢
  clear hg
  go_loopw [5, 6, 7, 11] (fun v _ _ i wr => ∃ k : Nat, k ≤ K ∧ i = .int .i64 k ∧ wr.ownsRow w1.heap.size 97 3 v (prtsK bs q k).length (pcs (prtsK bs q k)) ∧ Below w1.heap.size w1 wr) (fun _ _ _ i _ => K - (intOf i).toNat)
  case atStart => exact ⟨0, Nat.zero_le _, rfl, by simpa [prtsK, pcs] using World.ownsRow_nil _ _ _ _, Below.refl _ _⟩
  case round =>
    obtain ⟨k, hk, rfl, hown, hbel⟩ := hrel
    by_cases hlt : k < K
    · have hki : (k : Int) < (K : Int) := by omega
      by_cases h0 : 0 < bs.length
      · have q0 : decide (0 < (bs.length : Int)) = true := by simp; omega
        obtain ⟨J, hJ, hX0, hS0⟩ := prts_round bs q k h0
        have hX := Lib.hid hX0
        have HS := Lib.hid hS0
        have hXr : -9223372036854775808 ≤ wrap64 (q.rb + 7 * (k : Int)) ∧ wrap64 (q.rb + 7 * (k : Int)) ≤ 9223372036854775807 := by
          unfold wrap64; omega
        have HD := Lib.hid (HZ.out bs[J] (List.getElem_mem hJ))
        clear hX0 hS0
        obtain ⟨b, off, D, dn, dc, rfl, hc0, hc1, hc2, hc3, hrD, -⟩ := (hr.below (below_step halw.out hbel)).blob hJ
        have hJi : (J : Int) < (bs.length : Int) := by omega
        have hdl : dn = bs[J].dt.length := hrD.len
        rw [← hdl] at HS HD
        have hdn : dn ≤ 300 := HD.out
        clear hdl hrD HD
        generalize bs[J] = p at *
        obtain ⟨dgs, dts, pn, mr⟩ := p
        simp only at hc0 hc1 hc2 hc3 HS
        have v7 : IntKind.i64.wrap (7 * (k : Int)) = 7 * (k : Int) := IntWalk.i64_in _ (by omega)
        have v97 : IntKind.i64.wrap (97 + (k : Int)) = 97 + (k : Int) := IntWalk.i64_in _ (by omega)
        have w97 : IntKind.u8.wrap (97 + (k : Int)) = y8 (UInt8.ofNat (97 + k)) := by rw [y8_ofNat _ (by omega), IntKind.wrap_u8]; omega
        generalize UInt8.ofNat (97 + k) = x at *
        have hglt := hbk.lt
        have e2 : wr.cell? ⟨g, 2, none⟩ = some (.int .i64 q.rb) := (hbel.cell (p := ⟨g, 2, none⟩) hglt).trans (hbk.cell 2)
        have hln := prtsK_len (bs := bs) (q := q) (k := k)
        have hbz := hbel.size
        go_wp2_with fail
        with_reducible refine (picked_nat (wrap64 (q.rb + 7 * (k : Int))) (bs.length : Int) J _ hXr.1 hXr.2 (by omega) (by omega) hX.out).mono ?_
        rintro e w' ⟨rfl, rfl⟩
        have hal1 := (Below.refl wr.heap.size wr).alloc (Nat.le_refl _) (.cells #[.string (str dgs), .slice D dn dc, .int .i64 pn, .bool mr] 45)
        have hs1 : (wr.alloc (.cells #[.string (str dgs), .slice D dn dc, .int .i64 pn, .bool mr] 45)).heap.size = wr.heap.size + 1 := by simp
        have kc : (convert 43 9 (.slice (some ⟨wr.heap.size + 1, 0, none⟩) 1 1)).run Tryz.prog ((wr.alloc (.cells #[.string (str dgs), .slice D dn dc, .int .i64 pn, .bool mr] 45)).alloc (.cells #[.int .u8 (y8 x)] 5)) = .ok (.string (str [x])) ((wr.alloc (.cells #[.string (str dgs), .slice D dn dc, .int .i64 pn, .bool mr] 45)).alloc (.cells #[.int .u8 (y8 x)] 5)) := by
          have h := new_rd (wr.alloc (.cells #[.string (str dgs), .slice D dn dc, .int .i64 pn, .bool mr] 45)) 5 [x] (0, 0) (by unfold maxLen; simp)
          rw [hs1] at h
          exact run_bytes_str Tryz.underlying43 Tryz.underlying5 Tryz.underlying9 h
        have hal2 := (Below.refl (wr.alloc (.cells #[.string (str dgs), .slice D dn dc, .int .i64 pn, .bool mr] 45)).heap.size (wr.alloc (.cells #[.string (str dgs), .slice D dn dc, .int .i64 pn, .bool mr] 45))).alloc (Nat.le_refl _) (.cells #[.int .u8 (y8 x)] 5)
        have hbB := below_step hal1 hal2
        have hownB := own_below hown hbB
        have hbC := below_step hbel hbB
        have hsB := hbC.size
        clear hown
        go_wp2_with (at_builtin; refine wpList_append1' rfl (.tmp 28) (.tmp 41) _ rfl Tryz.underlying67 hi0 hz0 hz1 hz2 rfl (by omega) u5 _ _ rfl hownB [.string (str [112, x]), .string (str dgs), .int .i64 (dn : Int)] rfl (by simp [Value.oneCell']) (by simp [Act.eval]) (by omega) (by unfold maxLen; omega) hsB ?_; rintro v6 w6 ⟨hown6, hb6, hsz6, -⟩)
        go_roundw
        case rel =>
          refine ⟨k + 1, by omega, by go_num, ?_, hbC.trans hb6⟩
          rw [HS.out, pcs_append, List.length_append]
          exact hown6
        case measure => simp [intOf] <;> omega
      · have q0 : decide (0 < (bs.length : Int)) = false := by rw [decide_eq_false_iff_not]; omega
        have h00 : bs.length = 0 := by omega
        have HN : Hid (prtsK bs q (k + 1) = prtsK bs q k) := by show _ = _; unfold prtsK; rw [if_pos h00, if_pos h00]
        clear h00
        go_wp2
        go_roundw
        case rel => exact ⟨k + 1, by omega, by go_num, by rw [HN.out]; exact hown, hbel⟩
        case measure => simp [intOf] <;> omega
    · have hd2 : decide ((k : Int) < (K : Int)) = false := by simp; omega
      have hkK : k = K := by omega
      rw [hkK] at hown
      go_wp2
      go_ret
      rw [HP.out]
      exact ⟨_, rfl, own_base hown halw.out.size, below_step halw.out hbel⟩
end Go.Proofs.YtdbdigcpibmgjaaGreatDoor
/- The statements' own store of raw things: plain functions, and what holds of them. Nothing of the program. -/
namespace Go.Proofs.YtdbdigcpibmgjaaGreatDoor
open Go.RowKit
/-- what the store holds on its way: blobs, entries, bytes used, the clock -/
structure Sv where
  bs : List Bl
  es : List En
  us : Nat
  ck : Nat
def pn5 (n : Int) : Int := if 0 < pk n 5 - 3 then pk n 5 - 3 else 0
def sBlob (s : Sv) (q : Rw) (data : List UInt8) : Sv :=
  if s.bs.any (fun b => b.dg == dig data) then s else { s with bs := s.bs ++ [⟨dig data, data, pn5 q.rb, false⟩], us := s.us + data.length }
def sDat (s : Sv) (q : Rw) : List UInt8 := if pk q.kd 6 = 3 then man (prts s.bs q) else dat q 40
def sEnt (s : Sv) (q : Rw) : Sv :=
  if s.es.any (fun e => e.ky == keyB q.ra) then { s with ck := s.ck + (pk q.rb 3).toNat }
  else { s with ck := s.ck + (pk q.rb 3).toNat, es := s.es ++ [⟨keyB q.ra, prts s.bs q, pn5 q.rb, ((s.ck + (pk q.rb 3).toNat : Nat) : Int)⟩] }
def sStep (s : Sv) (q : Rw) : Sv := if pk q.kd 6 < 4 then sBlob s q (sDat s q) else sEnt s q
def sAll (l : List Rw) : Sv := (l.take 12).foldl sStep ⟨[], [], 0, 0⟩
theorem pn5_range (n : Int) : 0 ≤ pn5 n ∧ pn5 n ≤ 1 := by
  have := pk_range n 5 (by omega)
  unfold pn5; split <;> omega
theorem p_ok : ∀ i : Fin 8, nmErr [112, UInt8.ofNat (97 + i.val)] = 0 := by decide +kernel
theorem p_up : ∀ i j : Fin 8, j.val < i.val → nle [112, UInt8.ofNat (97 + i.val)] [112, UInt8.ofNat (97 + j.val)] = false := by decide +kernel
theorem p_first : ∀ i : Fin 8, nle [112, UInt8.ofNat (97 + i.val)] [] = false := by decide +kernel
theorem prt1_from {bs : List Bl} (h : 0 < bs.length) (q : Rw) (i : Nat) : ∃ b ∈ bs, b.dg = (prt1 bs q i).dg ∧ (b.dt.length : Int) = (prt1 bs q i).sz := by
  refine ⟨bs[pB q i bs.length]'(pB_lt q i _ h), List.getElem_mem _, ?_, ?_⟩ <;> rw [prtsK_at h]
theorem prt_pErr {bs : List Bl} (h : 0 < bs.length) (hf : ∀ b ∈ bs, b.fine) (q : Rw) : ∀ (m i : Nat) (last : List UInt8), i + m ≤ 8 → (last = [] ∨ ∃ j, j < i ∧ last = [112, UInt8.ofNat (97 + j)]) → pErr last ((List.range' i m).map (prt1 bs q)) = 0
  | 0, _, _, _, _ => rfl
  | m + 1, i, last, hm, hl => by
    obtain ⟨b, hb, e1, e2⟩ := prt1_from h q i
    obtain ⟨f1, f2, -, -, -⟩ := hf b hb
    have h1 : nmErr (prt1 bs q i).nm = 0 := p_ok ⟨i, by omega⟩
    have h2 : nle (prt1 bs q i).nm last = false := by
      rcases hl with rfl | ⟨j, hj, rfl⟩
      · exact p_first ⟨i, by omega⟩
      · exact p_up ⟨i, by omega⟩ ⟨j, by omega⟩ hj
    rw [List.range'_succ, List.map_cons, pErr, h1, h2, ← e1, f1, ← e2, if_neg (by omega), if_neg (by simp), if_neg (by omega), if_neg (by omega)]
    exact prt_pErr h hf q m (i + 1) _ (by omega) (.inr ⟨i, by omega, rfl⟩)
theorem prts_ok {bs : List Bl} (hf : ∀ b ∈ bs, b.fine) (q : Rw) : psErr (prts bs q) = 0 ∧ (prts bs q).length ≤ 3 ∧ ∀ p ∈ prts bs q, ∃ b ∈ bs, b.dg = p.dg ∧ (b.dt.length : Int) = p.sz := by
  have hr := pk_range q.ra 4 (by omega)
  have hl : (prts bs q).length ≤ 3 := Nat.le_trans prtsK_len (by omega)
  rcases Nat.eq_zero_or_pos bs.length with h0 | h0
  · have e : prts bs q = [] := by unfold prts prtsK; rw [if_pos h0]
    rw [e]
    exact ⟨rfl, by simp, fun _ h => by cases h⟩
  · have e : prts bs q = (List.range' 0 (pk q.ra 4).toNat).map (prt1 bs q) := by unfold prts prtsK; rw [if_neg (by omega), List.range_eq_range']
    refine ⟨?_, hl, fun p hp => ?_⟩
    · unfold psErr
      rw [if_neg (by omega), e]
      exact prt_pErr h0 hf q _ 0 [] (by omega) (.inl rfl)
    · rw [e] at hp
      obtain ⟨i, _, rfl⟩ := List.mem_map.1 hp
      exact prt1_from h0 q i
theorem man_184 {l : List Prt} (h : psErr l = 0) (hl : l.length ≤ 3) : (man l).length ≤ 184 := by
  obtain ⟨h8, hf⟩ := psErr_zero h
  rw [man_eq h8, List.length_append]
  have := mBs_length l hf
  simp only [List.length_cons, List.length_nil]
  omega
/-- what holds of it behind n steps -/
structure SvOk (n : Nat) (s : Sv) : Prop where
  len : s.bs.length + s.es.length ≤ n
  bf : ∀ b ∈ s.bs, b.fine ∧ b.dt.length ≤ 184 ∧ b.mr = false ∧ b.pn ≤ 1
  bd : s.bs.Pairwise fun a b => a.dg ≠ b.dg
  us : s.us = (s.bs.map fun b => b.dt.length).sum
  ef : ∀ e ∈ s.es, cErr e.ky = 0 ∧ psErr e.ps = 0 ∧ 0 ≤ e.pn ∧ e.pn ≤ 1 ∧ 0 ≤ e.st ∧ e.st ≤ s.ck ∧ (∃ m : Int, e.ky = keyB m) ∧ ∀ p ∈ e.ps, ∃ b ∈ s.bs, b.dg = p.dg ∧ (b.dt.length : Int) = p.sz
  ed : s.es.Pairwise fun a b => a.ky ≠ b.ky
  ck : s.ck ≤ 2 * n
theorem SvOk.zero : SvOk 0 ⟨[], [], 0, 0⟩ := ⟨by simp, fun _ h => (by cases h), List.Pairwise.nil, rfl, fun _ h => (by cases h), List.Pairwise.nil, by simp⟩
theorem SvOk.fine {n : Nat} {s : Sv} (h : SvOk n s) : ∀ b ∈ s.bs, b.fine := fun b hb => (h.bf b hb).1
theorem sDat_184 {n : Nat} {s : Sv} (h : SvOk n s) (q : Rw) : (sDat s q).length ≤ 184 := by
  unfold sDat
  split
  · obtain ⟨h1, h2, _⟩ := prts_ok h.fine q
    exact man_184 h1 h2
  · exact Nat.le_trans (dat_le q 40) (by omega)
theorem pw_snoc {α β : Type} [DecidableEq β] {l : List α} {x : α} {f : α → β} (h : l.Pairwise fun a b => f a ≠ f b) (hx : ∀ a ∈ l, f a ≠ f x) : (l ++ [x]).Pairwise fun a b => f a ≠ f b := by
  rw [List.pairwise_append]
  refine ⟨h, List.pairwise_singleton _ _, fun a ha b hb => ?_⟩
  rw [List.mem_singleton] at hb
  subst hb
  exact hx a ha
theorem SvOk.step {n : Nat} {s : Sv} (h : SvOk n s) (q : Rw) : SvOk (n + 1) (sStep s q) := by
  unfold sStep
  split
  · unfold sBlob
    have hd := sDat_184 h q
    generalize sDat s q = data at *
    split
    · exact ⟨by have := h.len; omega, h.bf, h.bd, h.us, h.ef, h.ed, by have := h.ck; omega⟩
    · rename_i hany
      have hp := pn5_range q.rb
      refine ⟨?_, fun b hb => ?_, ?_, ?_, fun e he => ?_, h.ed, ?_⟩
      · have := h.len
        simp only [List.length_append, List.length_singleton]; omega
      · rcases List.mem_append.1 hb with hb | hb
        · exact h.bf b hb
        · rw [List.mem_singleton] at hb
          subst hb
          exact ⟨⟨cErr_dig data, by show data.length ≤ 300; omega, rfl, hp.1, by show pn5 q.rb ≤ 5; omega⟩, hd, rfl, hp.2⟩
      · refine pw_snoc h.bd fun a ha e => hany ?_
        rw [List.any_eq_true]
        exact ⟨a, ha, by rw [beq_iff_eq]; exact e⟩
      · simp [h.us]
      · obtain ⟨e1, e2, e3, e4, e5, e6, e7, e8⟩ := h.ef e he
        refine ⟨e1, e2, e3, e4, e5, e6, e7, fun p hp => ?_⟩
        obtain ⟨b, hb, r⟩ := e8 p hp
        exact ⟨b, List.mem_append_left _ hb, r⟩
      · have := h.ck
        show s.ck ≤ _; omega
  · unfold sEnt
    have h3 := pk_range q.rb 3 (by omega)
    have hp := pn5_range q.rb
    have hck := h.ck
    split
    · refine ⟨by have := h.len; show s.bs.length + s.es.length ≤ _; omega, h.bf, h.bd, h.us, fun e he => ?_, h.ed, ?_⟩
      · obtain ⟨e1, e2, e3, e4, e5, e6, e7, e8⟩ := h.ef e he
        exact ⟨e1, e2, e3, e4, e5, by show e.st ≤ ((s.ck + (pk q.rb 3).toNat : Nat) : Int); omega, e7, e8⟩
      · show s.ck + (pk q.rb 3).toNat ≤ _; omega
    · rename_i hany
      refine ⟨?_, h.bf, h.bd, h.us, fun e he => ?_, ?_, ?_⟩
      · have := h.len
        simp only [List.length_append, List.length_singleton]; omega
      · rcases List.mem_append.1 he with he | he
        · obtain ⟨e1, e2, e3, e4, e5, e6, e7, e8⟩ := h.ef e he
          exact ⟨e1, e2, e3, e4, e5, by show e.st ≤ ((s.ck + (pk q.rb 3).toNat : Nat) : Int); omega, e7, e8⟩
        · rw [List.mem_singleton] at he
          subst he
          obtain ⟨p1, _, p3⟩ := prts_ok h.fine q
          exact ⟨cErr_dig _, p1, hp.1, hp.2, by show (0 : Int) ≤ ((s.ck + (pk q.rb 3).toNat : Nat) : Int); omega, Int.le_refl _, ⟨q.ra, rfl⟩, p3⟩
      · refine pw_snoc h.ed fun a ha e => hany ?_
        rw [List.any_eq_true]
        exact ⟨a, ha, by rw [beq_iff_eq]; exact e⟩
      · show s.ck + (pk q.rb 3).toNat ≤ _; omega
theorem SvOk.fold : ∀ (l : List Rw) {n : Nat} {s : Sv}, SvOk n s → SvOk (n + l.length) (l.foldl sStep s)
  | [], _, _, h => h
  | q :: r, n, s, h => by
    have := SvOk.fold r (h.step q)
    rw [List.foldl_cons, List.length_cons, show n + (r.length + 1) = n + 1 + r.length by omega]
    exact this
theorem SvOk.all (l : List Rw) (k : Nat) : SvOk k ((l.take k).foldl sStep ⟨[], [], 0, 0⟩) := by
  have h := SvOk.fold (l.take k) SvOk.zero
  have hl : (l.take k).length ≤ k := by rw [List.length_take]; omega
  rw [Nat.zero_add] at h
  exact ⟨by have := h.len; omega, h.bf, h.bd, h.us, h.ef, h.ed, by have := h.ck; omega⟩
theorem sum_le : ∀ (l : List Bl) (m : Nat), (∀ b ∈ l, b.dt.length ≤ m) → (l.map fun b => b.dt.length).sum ≤ m * l.length
  | [], _, _ => by simp
  | b :: r, m, h => by
    have := sum_le r m fun x hx => h x (List.mem_cons_of_mem _ hx)
    have := h b (List.mem_cons_self ..)
    rw [List.map_cons, List.sum_cons, List.length_cons, Nat.mul_succ]; omega
theorem SvOk.used {n : Nat} {s : Sv} (h : SvOk n s) : s.us ≤ 184 * n := by
  rw [h.us]
  refine Nat.le_trans (sum_le _ 184 fun b hb => (h.bf b hb).2.1) (Nat.mul_le_mul_left _ ?_)
  have := h.len; omega
/-- blobs of different digests that are sorted stand in their order -/
theorem srt_of {l l' : List Bl} (hp : l'.Perm l) (hs : l'.Pairwise fun a b => Op.bytesLess b.dg a.dg = false) (hd : l.Pairwise fun a b => a.dg ≠ b.dg) : Srt l' := by
  have hd' : l'.Pairwise fun a b => a.dg ≠ b.dg := (hp.pairwise_iff (fun h => Ne.symm h)).2 hd
  refine (hs.and hd').imp fun {a b} h => ?_
  rcases bl_cases a.dg b.dg with q | q | q
  · exact q
  · exact absurd q h.2
  · rw [h.1] at q; cases q
/-- entries likewise -/
def SrtE (l : List En) : Prop := l.Pairwise fun a b => Op.bytesLess a.ky b.ky = true
theorem srtE_of {l l' : List En} (hp : l'.Perm l) (hs : l'.Pairwise fun a b => Op.bytesLess b.ky a.ky = false) (hd : l.Pairwise fun a b => a.ky ≠ b.ky) : SrtE l' := by
  have hd' : l'.Pairwise fun a b => a.ky ≠ b.ky := (hp.pairwise_iff (fun h => Ne.symm h)).2 hd
  refine (hs.and hd').imp fun {a b} h => ?_
  rcases bl_cases a.ky b.ky with q | q | q
  · exact q
  · exact absurd q h.2
  · rw [h.1] at q; cases q
end Go.Proofs.YtdbdigcpibmgjaaGreatDoor
/- The closures of the statements' own Store and Has; what Store hands back. -/
namespace Go.Proofs.YtdbdigcpibmgjaaGreatDoor
open Go.RowKit Go.Shelf
set_option maxRecDepth 100000 in
set_option maxHeartbeats 400000 in
theorem st1_tells (d : List UInt8) (g : Nat) (w : World) (hg : g < w.heap.size) (hc : w.cell? ⟨g, 0, none⟩ = some (.string (str d))) : TellsB w 47 #[.pointer (some ⟨g, 0, none⟩)] (fun b => b.dg == d) := fun W x hb => by
  have hcW : W.cell? ⟨g, 0, none⟩ = some (.string (str d)) := (hb.cell (p := ⟨g, 0, none⟩) hg).trans hc
  have hgW : g < W.heap.size := Nat.lt_of_lt_of_le hg hb.size
  have hne : g ≠ W.heap.size := by omega
  obtain ⟨⟨d1, t1, p1, m1⟩, ⟨A1, n1, c1⟩⟩ := x
  show Calls Tryz.prog 47 #[.agg #[.string (str d1), .slice A1 n1 c1, .int .i64 p1, .bool m1], .pointer (some ⟨g, 0, none⟩)] W fun e w' => e = .returned (.bool (d1 == d)) ∧ _
  go_enter Tryz.func47, Tryz.ntmps47
  go_wp2
  go_ret
  exact ⟨rfl, hb.alloc hb.size _⟩
set_option maxRecDepth 100000 in
set_option maxHeartbeats 400000 in
theorem st2_tells (d : List UInt8) (g : Nat) (w : World) (hg : g < w.heap.size) (hc : w.cell? ⟨g, 0, none⟩ = some (.string (str d))) : TellsE w 50 #[.pointer (some ⟨g, 0, none⟩)] (fun b => b.ky == d) := fun W x hb => by
  have hcW : W.cell? ⟨g, 0, none⟩ = some (.string (str d)) := (hb.cell (p := ⟨g, 0, none⟩) hg).trans hc
  have hgW : g < W.heap.size := Nat.lt_of_lt_of_le hg hb.size
  have hne : g ≠ W.heap.size := by omega
  obtain ⟨⟨d1, t1, p1, m1⟩, ⟨A1, n1, c1⟩⟩ := x
  show Calls Tryz.prog 50 #[.agg #[.string (str d1), .slice A1 n1 c1, .int .i64 p1, .int .i64 m1], .pointer (some ⟨g, 0, none⟩)] W fun e w' => e = .returned (.bool (d1 == d)) ∧ _
  go_enter Tryz.func50, Tryz.ntmps50
  go_wp2
  go_ret
  exact ⟨rfl, hb.alloc hb.size _⟩
theorem data40 (q : Rw) (w : World) (hq : q.tx.length ≤ 140737488351232) :
    Calls Tryz.prog 42 #[.agg #[.int .i64 q.kd, .int .i64 q.ra, .int .i64 q.rb, .string (str q.tx)], .int .i64 40] w (GivesBy (dat q 40) w) := data_any q 40 w hq (by omega)
theorem data60 (q : Rw) (w : World) (hq : q.tx.length ≤ 140737488351232) :
    Calls Tryz.prog 42 #[.agg #[.int .i64 q.kd, .int .i64 q.ra, .int .i64 q.rb, .string (str q.tx)], .int .i64 60] w (GivesBy (dat q 60) w) := data_any q 60 w hq (by omega)
theorem contains1 (A : Option Addr) (n c : Nat) (l : List Bl) (w : World) (hr : KRd kBl w A n c l) (d : List UInt8) (g : Nat) (hg : g < w.heap.size) (hc : w.cell? ⟨g, 0, none⟩ = some (.string (str d))) (b : Bool) (hb : l.any (fun x => x.dg == d) = b) :
    Calls Tryz.prog 46 #[.slice A n c, .func (.func 47) #[] #[.pointer (some ⟨g, 0, none⟩)]] w fun e w' => e = .returned (.bool b) ∧ Below w.heap.size w w' := by
  rw [← hb]
  exact containsB_any A n c l w hr _ _ _ (enters_of Tryz.func47 (by kernel_rfl) rfl) (st1_tells d g w hg hc)
theorem contains2 (A : Option Addr) (n c : Nat) (l : List En) (w : World) (hr : KRd kEn w A n c l) (d : List UInt8) (g : Nat) (hg : g < w.heap.size) (hc : w.cell? ⟨g, 0, none⟩ = some (.string (str d))) (b : Bool) (hb : l.any (fun x => x.ky == d) = b) :
    Calls Tryz.prog 49 #[.slice A n c, .func (.func 50) #[] #[.pointer (some ⟨g, 0, none⟩)]] w fun e w' => e = .returned (.bool b) ∧ Below w.heap.size w w' := by
  rw [← hb]
  exact containsE_any A n c l w hr _ _ _ (enters_of Tryz.func50 (by kernel_rfl) rfl) (st2_tells d g w hg hc)
/-- the store behind k raw things -/
def sAt (l : List Rw) (k : Nat) : Sv := (l.take k).foldl sStep ⟨[], [], 0, 0⟩
theorem sAt_step {l : List Rw} {k : Nat} (h : k < l.length) : sAt l (k + 1) = sStep (sAt l k) l[k] := by
  unfold sAt; rw [List.take_succ_eq_append_getElem h, List.foldl_append]; rfl
theorem sAt_ok (l : List Rw) (k : Nat) : SvOk k (sAt l k) := SvOk.all l k
theorem sAt_end {l : List Rw} {k : Nat} (h : k = l.length ∧ k ≤ 12 ∨ k = 12 ∧ 12 ≤ l.length) : sAt l k = sAll l := by
  unfold sAt sAll
  rcases h with ⟨rfl, h⟩ | ⟨rfl, _⟩
  · rw [List.take_of_length_le (Nat.le_refl _), List.take_of_length_le h]
  · rfl
/-- what holds ahead of round k -/
def StI (l : List Rw) (w : World) (g : Nat) (wr : World) (k : Nat) (u : Value) : Prop :=
  ∃ vB vE hB hE, u = .int .i64 ((sAt l k).us : Int) ∧ Blk wr g 25 [.slice none 0 0, .slice none 0 0, .int .i64 0, .int .i64 0] ∧ Blk wr (g + 1) 25 [vB, vE, .int .i64 0, .int .i64 ((sAt l k).ck : Int)] ∧
    Two kBl kEn wr (g + 2) 45 74 vB hB vE hE ∧ hB.map Prod.fst = (sAt l k).bs ∧ hE.map Prod.fst = (sAt l k).es ∧ Below g w wr
/-- a store as the call hands it back -/
def GivesS (l : List Rw) (w : World) (e : Ending) (w' : World) : Prop :=
  ∃ vB vE hB hE, e = .returned (.agg #[vB, vE, .int .i64 ((sAll l).us + 600 : Nat), .int .i64 ((sAll l).ck : Nat)]) ∧ Two kBl kEn w' (w.heap.size + 2) 45 74 vB hB vE hE ∧
    (hB.map Prod.fst).Perm (sAll l).bs ∧ (hE.map Prod.fst).Perm (sAll l).es ∧ Srt (hB.map Prod.fst) ∧ SrtE (hE.map Prod.fst) ∧ Below w.heap.size w w'
end Go.Proofs.YtdbdigcpibmgjaaGreatDoor
