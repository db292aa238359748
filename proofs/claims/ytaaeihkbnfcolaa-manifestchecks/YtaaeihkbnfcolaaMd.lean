/- Reading parts: the program's readParts. -/
import Derived.Test.YtaaeihkbnfcolaaMr
namespace Go.Proofs.Ytaaeihkbnfcolaa
open Go.RowKit
/-- the part that a new row holds -/
def zp : Prt := ⟨[], [], 0⟩
theorem pcs_zp : ∀ n : Nat, pcs (List.replicate n zp) = (List.replicate n [Value.string (str []), .string (str []), .int .i64 0]).flatten
  | 0 => rfl
  | n + 1 => by rw [List.replicate_succ, List.replicate_succ, pcs_cons, pcs_zp n]; rfl
theorem made_parts (n : Nat) : madeCells #[.string ByteArray.empty, .string ByteArray.empty, .int .i64 0] (n * 3) = (pcs (List.replicate n zp)).toArray := by
  apply Array.ext
  · rw [size_madeCells, List.size_toArray, pcs_length, List.length_replicate]
  · intro i h1 h2
    rw [size_madeCells] at h1
    obtain ⟨k, r, hr, rfl⟩ : ∃ k r, r < 3 ∧ i = k * 3 + r := ⟨i / 3, i % 3, by omega, by omega⟩
    have hk : k < (List.replicate n zp).length := by rw [List.length_replicate]; omega
    obtain ⟨p0, p1, p2⟩ := pcs_at _ k hk
    rw [List.getElem_replicate] at p0 p1 p2
    have hm : (k * 3 + r) % 3 = r := by omega
    have hl : (madeCells #[.string ByteArray.empty, .string ByteArray.empty, .int .i64 0] (n * 3))[k * 3 + r]? = some (#[Value.string ByteArray.empty, .string ByteArray.empty, .int .i64 0][r]!) := by
      unfold madeCells
      rw [Array.getElem?_map, Array.getElem?_range, if_pos h1]
      show some (#[Value.string ByteArray.empty, .string ByteArray.empty, .int .i64 0][(k * 3 + r) % 3]!) = _
      rw [hm]
    have hx : ((pcs (List.replicate n zp)).toArray)[k * 3 + r]? = some (#[Value.string ByteArray.empty, .string ByteArray.empty, .int .i64 0][r]!) := by
      rw [List.getElem?_toArray]
      match r, hr with
      | 0, _ => rw [Nat.add_zero, p0]; rfl
      | 1, _ => rw [p1]; rfl
      | 2, _ => rw [p2]; rfl
    rw [Array.getElem?_eq_getElem (by rw [size_madeCells]; exact h1)] at hl
    rw [Array.getElem?_eq_getElem h2] at hx
    injection hl with hl
    injection hx with hx
    rw [hl, hx]
theorem pcs_set3 : ∀ (l : List Prt) (k : Nat) (p : Prt), k < l.length → (((pcs l).set (k * 3) (.string (str p.nm))).set (k * 3 + 1) (.string (str p.dg))).set (k * 3 + 2) (.int .i64 p.sz) = pcs (l.set k p)
  | [], _, _, h => absurd h (by simp)
  | q :: r, 0, p, _ => rfl
  | q :: r, k + 1, p, h => by
    have := pcs_set3 r k p (by simpa using h)
    rw [List.set_cons_succ, pcs_cons, pcs_cons, ← this, show (k + 1) * 3 = k * 3 + 1 + 1 + 1 from by omega]
    simp
theorem set_mid {α : Type} (acc : List α) (z p : α) (n : Nat) (hn : 0 < n) : (acc ++ List.replicate n z).set acc.length p = (acc ++ [p]) ++ List.replicate (n - 1) z := by
  obtain ⟨m, rfl⟩ : ∃ m, n = m + 1 := ⟨n - 1, by omega⟩
  rw [List.set_append_right _ _ (Nat.le_refl _), Nat.sub_self, List.replicate_succ, List.set_cons_zero, List.append_assoc]
  rfl
def noB (xs : List Value) : Prop := ∀ v ∈ xs, ∀ y, v ≠ bv8 y
theorem noB_pcs : ∀ l : List Prt, noB (pcs l)
  | [] => fun v hv => by cases hv
  | p :: r => by
    intro v hv y
    rw [pcs_cons] at hv
    simp only [List.mem_cons] at hv
    rcases hv with rfl | rfl | rfl | hv
    · simp [bv8]
    · simp [bv8]
    · simp [bv8]
    · exact noB_pcs r v hv y
theorem noB_set {xs : List Value} (h : noB xs) (i : Nat) {u : Value} (hu : ∀ y, u ≠ bv8 y) : noB (xs.set i u) := by
  intro v hv y
  rcases List.mem_or_eq_of_mem_set hv with hv | rfl
  · exact h v hv y
  · exact hu y
theorem Rd.put3 {w : World} {A : Option Addr} {n c : Nat} {l : List UInt8} (h : Rd w 1 A n c (l.map bv8)) {g : Nat} {t : TypeId} {L : List Prt} (hg : Blk w g t (pcs L)) (i j k : Nat) (a b : ByteArray) (z : Int) :
    Rd (((w.setCell ⟨g, i, none⟩ (.string a)).setCell ⟨g, j, none⟩ (.string b)).setCell ⟨g, k, none⟩ (.int .i64 z)) 1 A n c (l.map bv8) := by
  have n0 := noB_pcs L
  have n1 := noB_set n0 i (u := .string a) (fun y => by simp [bv8])
  have n2 := noB_set n1 j (u := .string b) (fun y => by simp [bv8])
  exact ((h.put_other hg n0 i _).put_other (hg.put i _) n1 j _).put_other ((hg.put i _).put j _) n2 k _
theorem Blk.putP {w : World} {g : Nat} {t : TypeId} {L : List Prt} (hg : Blk w g t (pcs L)) (k : Nat) (p : Prt) (hk : k < L.length) :
    Blk (((w.setCell ⟨g, k * 3, none⟩ (.string (str p.nm))).setCell ⟨g, k * 3 + 1, none⟩ (.string (str p.dg))).setCell ⟨g, k * 3 + 2, none⟩ (.int .i64 p.sz)) g t (pcs (L.set k p)) := by
  have := ((hg.put (k * 3) (.string (str p.nm))).put (k * 3 + 1) (.string (str p.dg))).put (k * 3 + 2) (.int .i64 p.sz)
  rwa [pcs_set3 L k p hk] at this
/-- reading k parts: the error, the parts, what is behind them -/
def rdP : Nat → List Prt → List UInt8 → Int × List Prt × List UInt8
  | 0, acc, r => (0, acc, r)
  | k + 1, acc, r => if pe r ≠ 0 then (pe r, [], []) else rdP k (acc ++ [pp r]) (pr r)
def rdN (l : List UInt8) : Int × List Prt × List UInt8 := if rErr l ≠ 0 then (rErr l, [], []) else if 8 < rVal l then (1, [], []) else rdP (rVal l) [] (rRest l)
def fin3 (x : Int × List Prt × List UInt8) : Int × List Prt := if x.1 ≠ 0 then (x.1, []) else if 0 < x.2.2.length then (3, []) else if psErr x.2.1 ≠ 0 then (psErr x.2.1, []) else (0, x.2.1)
theorem rdTail_fin : ∀ (k : Nat) (acc : List Prt) (r : List UInt8), rdTail k acc r = fin3 (rdP k acc r)
  | 0, acc, r => by rw [rdTail, rdP, fin3]; simp
  | k + 1, acc, r => by
    rw [rdTail_pe, rdP]
    split
    · rename_i h; rw [fin3, if_pos h]
    · exact rdTail_fin k _ _
theorem dec_fin {l : List UInt8} (h1 : ¬ 2000 < l.length) (h2 : ¬ (l.length < 3 ∨ l.take 3 ≠ [65, 77, 49])) : dec l = fin3 (rdN (l.drop 3)) := by
  unfold dec rdN
  rw [if_neg h1, if_neg h2]
  split
  · rename_i h; rw [fin3, if_pos h]
  · split
    · rw [fin3, if_pos (by simp)]
    · exact rdTail_fin _ _ _
theorem pr_le (r : List UInt8) : (pr r).length ≤ r.length := by
  unfold pr
  split
  · have h1 := rRest_le ((tRest r).drop 32)
    have h2 := tRest_le r
    rw [List.length_drop] at h1
    omega
  · simp
theorem pp_good {r : List UInt8} (h : r.length ≤ 2000) : (pp r).good := by
  unfold pp
  split
  · refine ⟨?_, ?_, ?_⟩
    · have := tStr_le r; unfold maxLen; simp only; omega
    · simp only; rw [hexT_length, List.length_take]; unfold maxLen; omega
    · have := rVal_lt ((tRest r).drop 32)
      simp [Lit.wf, IntKind.min, IntKind.max, IntKind.bits, IntKind.signed]
      omega
  · exact ⟨by simp, by simp, by decide⟩
theorem rdP_good : ∀ (k : Nat) (acc : List Prt) (r : List UInt8), (∀ p ∈ acc, p.good) → r.length ≤ 2000 → ∀ p ∈ (rdP k acc r).2.1, p.good
  | 0, acc, r, h, _ => h
  | k + 1, acc, r, h, hr => by
    rw [rdP]
    split
    · intro p hp; cases hp
    · refine rdP_good k _ _ (fun p hp => ?_) (by have := pr_le r; omega)
      rcases List.mem_append.1 hp with hp | hp
      · exact h p hp
      · simp only [List.mem_cons, List.not_mem_nil, or_false] at hp
        subst hp
        exact pp_good hr
theorem rdN_good {l : List UInt8} (h : l.length ≤ 2000) : ∀ p ∈ (rdN l).2.1, p.good := by
  unfold rdN
  split
  · intro p hp; cases hp
  · split
    · intro p hp; cases hp
    · exact rdP_good _ _ _ (fun p hp => by cases hp) (by have := rRest_le l; omega)
/-- parts, bytes behind them and an error -/
def GivesS (x : Int × List Prt × List UInt8) (w : World) (e : Ending) (w' : World) : Prop :=
  ∃ A n c B m d, e = .returned (.tuple #[.slice A n c, .slice B m d, .int .i64 x.1]) ∧ Rd w' 3 A n c (pcs x.2.1) ∧ (A = none → c = 0) ∧ Rd w' 1 B m d (x.2.2.map bv8) ∧ Below w.heap.size w w'
theorem givesS_no {x : Int × List Prt × List UInt8} {er : Int} {w w' : World} {e : Ending} (hx : (er, [], []) = x) (hb : Below w.heap.size w w') (h : e = .returned (.tuple #[.slice none 0 0, .slice none 0 0, .int .i64 er])) : GivesS x w e w' := by
  subst hx
  exact ⟨none, 0, 0, none, 0, 0, h, Rd.nil _ _, fun _ => rfl, Rd.nil _ _, hb⟩
set_option maxRecDepth 100000 in
set_option maxHeartbeats 2000000 in
theorem readParts_at (A : Option Addr) (n c : Nat) (l : List UInt8) (w : World) (hr : Rd w 1 A n c (l.map bv8)) (hz : n ≤ 2000) (x : Int × List Prt × List UInt8) (hx : Hid (rdN l = x)) :
    Calls Try.prog 36 #[.slice A n c] w (GivesS x w) := by
  obtain ⟨i0, hi0, hz0, hz1, hz2⟩ := info_parts part_info
  have HL := Lib.hid hr.len
  go_enter Try.func36, Try.ntmps36
  go_wp2_with fail
  with_reducible refine (readNumber_any _ _ _ _ _ hr (by omega)).mono ?_
  rintro e w1 ⟨A1, n1, c1, rfl, hr1, hA1, hn1, hF1, hb1⟩
  have hl1 : n1 ≤ 2000 := by have h5 := hr1.len; have h6 := rRest_le l; have h7 := HL.out; omega
  have hvx := rVal_lt l
  clear hr
  by_cases he : rErr l = 0
  · have n1' : (rErr l != 0) = false := by rw [bne_eq_false_iff_eq]; exact he
    have hx1 := hx.out
    rw [rdN, if_neg (by omega)] at hx1
    obtain ⟨v, hv⟩ : ∃ v, rVal l = v := ⟨_, rfl⟩
    rw [hv] at hx1 hvx ⊢
    clear hv hx he
    by_cases h8 : 8 < v
    · have d8 : decide (8 < (v : Int)) = true := by simp; omega
      rw [if_pos h8] at hx1
      have HX := Lib.hid hx1
      clear hx1
      go_wp2
      go_ret3
      exact givesS_no HX.out hb1 rfl
    · have d8 : decide (8 < (v : Int)) = false := by simp; omega
      rw [if_neg h8] at hx1
      have HX := Lib.hid hx1
      clear hx1
      generalize rRest l = r1 at *
      have hmk : ∀ W : World, (Instr.makeSlice 22 (.int .i64 (v : Int)) (.int .i64 (v : Int))).run Try.prog W = .ok (.slice (some ⟨W.heap.size, 0, none⟩) v v) (W.alloc (.cells (pcs (List.replicate v zp)).toArray 39)) := fun W => by
        have h := run_make (P := Try.prog) W 22 39 i0 _ Try.underlying22 hi0 hz0 .i64 .i64 v v (by omega) (by omega) (by rw [hz2]; omega) (by omega)
        simp only [Int.toNat_natCast, hz1] at h
        rw [h]
        congr 3
        exact made_parts v
      have hal := (Below.refl w1.heap.size w1).alloc (Nat.le_refl _) (.cells (pcs (List.replicate v zp)).toArray 39)
      have hbk := Blk.new w1 39 (pcs (List.replicate v zp))
      have hr2 := hr1.below hal
      have hbA := below_step hb1 hal
      have hgs := hb1.size
      obtain ⟨g, hg⟩ : ∃ g, w1.heap.size = g := ⟨_, rfl⟩
      clear hr1 hal hb1 hF1
      rw [hg] at hbk hgs
      go_wp2
      clear hg hmk
      go_loopw [6, 7, 9, 25] (fun rest _ _ i wr => ∃ (k n' c' : Nat) (A' : Option Addr) (acc : List Prt) (r : List UInt8), k ≤ v ∧ i = .int .i64 k ∧ rest = .slice A' n' c' ∧ n' ≤ 2000 ∧ Rd wr 1 A' n' c' (r.map bv8) ∧ Hid (acc.length = k) ∧ Blk wr g 39 (pcs (acc ++ List.replicate (v - k) zp)) ∧ Hid (rdP (v - k) acc r = x) ∧ Below w.heap.size w wr) (fun _ _ _ i _ => v - (intOf i).toNat)
      case atStart => exact ⟨0, _, _, _, [], r1, Nat.zero_le _, rfl, rfl, hl1, hr2, rfl, by simpa using hbk, HX.out, hbA⟩
      case round =>
        clear hr2 hbk hbA HX
        obtain ⟨k, n', c', A', acc, r, hk, rfl, rfl, hn', hr, HA, hbk, HD, hbel⟩ := hrel
        by_cases hlt : k < v
        · have hki : (k : Int) < (v : Int) := by omega
          have HL2 := Lib.hid hr.len
          go_wp2_with fail
          with_reducible refine (readPart_any _ _ _ _ _ hr hn').mono ?_
          rintro e w3 ⟨A3, n3, c3, rfl, hr3, hb3⟩
          have hbk3 := hbk.below hb3 hbk.lt
          have hbB := below_step hbel hb3
          have hl3 : n3 ≤ 2000 := by have h5 := hr3.len; have h6 := pr_le r; have h7 := HL2.out; omega
          have hLl : k < (acc ++ List.replicate (v - k) zp).length := by rw [List.length_append, List.length_replicate]; have := HA.out; omega
          obtain ⟨q0, q1, q2⟩ := pcs_at _ k hLl
          generalize (acc ++ List.replicate (v - k) zp)[k] = zz at q0 q1 q2
          have e0 := hbk3.cell (k * 3)
          have e1 := hbk3.cell (k * 3 + 1)
          have e2 := hbk3.cell (k * 3 + 2)
          rw [q0] at e0
          rw [q1] at e1
          rw [q2] at e2
          have f0 := hbk3.frozen (k * 3)
          have f1 := hbk3.frozen (k * 3 + 1)
          have f2 := hbk3.frozen (k * 3 + 2)
          have hbk4 := hbk3.putP k (pp r) hLl
          have hset : (acc ++ List.replicate (v - k) zp).set k (pp r) = (acc ++ [pp r]) ++ List.replicate (v - (k + 1)) zp := by
            have := set_mid acc zp (pp r) (v - k) (by omega)
            rwa [HA.out, show v - k - 1 = v - (k + 1) by omega] at this
          rw [hset] at hbk4
          have hr4 := hr3.put3 hbk3 (k * 3) (k * 3 + 1) (k * 3 + 2) (str (pp r).nm) (str (pp r).dg) (pp r).sz
          have hbC := below_set3 (i := k * 3) (j := k * 3 + 1) (k := k * 3 + 2) hbB hgs (.string (str (pp r).nm)) (.string (str (pp r).dg)) (.int .i64 (pp r).sz)
          have HB4 := Lib.hid hbk4
          have HD1 := HD.out
          rw [show v - k = (v - (k + 1)) + 1 by omega, rdP] at HD1
          clear hbk3 hbk q0 q1 q2 hset hLl hbk4 hr hr3 hb3 HD
          by_cases hp : pe r = 0
          · have p1 : (pe r != 0) = false := by rw [bne_eq_false_iff_eq]; exact hp
            rw [if_neg (by omega)] at HD1
            have HD2 := Lib.hid HD1
            clear HD1 hp
            go_wp2
            go_roundw
            case rel => exact ⟨k + 1, _, _, _, acc ++ [pp r], pr r, by omega, by go_num, rfl, hl3, hr4, (by show _ = _; rw [List.length_append, HA.out]; rfl), HB4.out, HD2.out, hbC⟩
            case measure => simp [intOf] <;> omega
          · have p1 : (pe r != 0) = true := by rw [bne_iff_ne]; exact hp
            rw [if_pos hp] at HD1
            have HD2 := Lib.hid HD1
            clear HD1 hp
            go_wp2
            go_ret3
            exact givesS_no HD2.out hbC rfl
        · have hkv : k = v := by omega
          have hki : decide ((k : Int) < (v : Int)) = false := by simp; omega
          have HX : Hid ((0, acc, r) = x) := by
            show _ = _
            have := HD.out
            rwa [show v - k = 0 by omega, rdP] at this
          have hbk5 : Blk wr g 39 (pcs acc) := by
            have := hbk
            rwa [show v - k = 0 by omega, List.replicate_zero, List.append_nil] at this
          have hr5 := hbk5.rd (size := 3) (n := v) (c := v) (Nat.le_refl _) (by unfold maxLen; omega) (by rw [pcs_length, HA.out]; omega)
          rw [List.take_of_length_le (by rw [pcs_length, HA.out]; omega)] at hr5
          clear hkv HD hbk
          go_wp2
          go_ret3
          rw [← HX.out]
          exact ⟨_, _, _, _, _, _, rfl, hr5, (fun q => by cases q), hr, hbel⟩
  · have n1' : (rErr l != 0) = true := by rw [bne_iff_ne]; exact he
    have hx1 := hx.out
    rw [rdN, if_pos he] at hx1
    have HX := Lib.hid hx1
    clear hx1 hx he
    go_wp2
    go_ret3
    exact givesS_no HX.out hb1 rfl
end Go.Proofs.Ytaaeihkbnfcolaa
