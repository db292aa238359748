/- Texts that belong together: what the functions of the program and of the statements return. -/
import Derived.Test.YtdbdigcpibmgjaaGreatDoorGN
import Derived.IntWalk
import Derived.Test.YtdbdigcpibmgjaaGreatDoorRows
import Derived.Lib.Hide
/- The bytes of blobs, and what lacks: plain functions, and what holds of them. Nothing of the program. -/
namespace Go.Proofs.YtdbdigcpibmgjaaGreatDoor
open Go.RowKit
/-- the bytes of blobs, all in all -/
def uS (l : List Bl) : Int := ((l.map fun b => b.dt.length).sum : Nat)
theorem wrap64_add (a b : Int) : wrap64 (wrap64 a + b) = wrap64 (a + b) := by unfold wrap64; omega
theorem wrap64_zero : wrap64 0 = 0 := by unfold wrap64; omega
theorem wrap64_range (a : Int) : -9223372036854775808 ≤ wrap64 a ∧ wrap64 a ≤ 9223372036854775807 := by unfold wrap64; omega
theorem uS_step {l : List Bl} {k : Nat} (h : k < l.length) : uS (l.take (k + 1)) = uS (l.take k) + (l[k].dt.length : Int) := by
  unfold uS; rw [List.take_succ_eq_append_getElem h, List.map_append, List.sum_append]; simp
/-- what lacks: the number, the error -/
def rL (l : List Bl) (room more : Int) : Int × Int :=
  if room < 0 ∨ 4000 < room ∨ more < 0 ∨ 4000 < more then (0, 4) else if wrap64 (wrap64 (wrap64 (uS l) + more) - room) < 0 then (0, 0) else (wrap64 (wrap64 (wrap64 (uS l) + more) - room), 0)
theorem uS_le : ∀ (l : List Bl) (m : Nat), (∀ b ∈ l, b.dt.length ≤ m) → 0 ≤ uS l ∧ uS l ≤ ((m * l.length : Nat) : Int) := by
  intro l m h
  have : (l.map fun b => b.dt.length).sum ≤ m * l.length := by
    induction l with
    | nil => simp
    | cons b r ih =>
      have := ih fun x hx => h x (List.mem_cons_of_mem _ hx)
      have := h b (List.mem_cons_self ..)
      rw [List.map_cons, List.sum_cons, List.length_cons, Nat.mul_succ]; omega
  unfold uS
  omega
/-- few bytes, numbers that may be: no sum goes round -/
theorem rL_small {l : List Bl} {a b : Int} (h0 : 0 ≤ uS l) (h1 : uS l ≤ 100000) (ha : 0 ≤ a) (ha' : a ≤ 4000) (hb : 0 ≤ b) (hb' : b ≤ 4000) :
    rL l a b = (if 0 < uS l + b - a then uS l + b - a else 0, 0) := by
  unfold rL
  rw [if_neg (by omega)]
  have e : wrap64 (wrap64 (wrap64 (uS l) + b) - a) = uS l + b - a := by unfold wrap64; omega
  rw [e]
  generalize uS l + b - a = x
  split <;> split <;> simp <;> omega
theorem uS_small {l : List Bl} (h0 : 0 ≤ uS l) (h1 : uS l ≤ 100000) : wrap64 (uS l) = uS l := by unfold wrap64; omega
end Go.Proofs.YtdbdigcpibmgjaaGreatDoor
/- The reference's RoomUsed. -/
namespace Go.Proofs.YtdbdigcpibmgjaaGreatDoor
open Go.RowKit
set_option maxRecDepth 100000 in
set_option maxHeartbeats 1000000 in
theorem roomUsed_any (A : Option Addr) (n c : Nat) (l : List Bl) (w : World) (hr : KRd kBl w A n c l) :
    Calls Tryz.prog 73 #[.slice A n c] w fun e w' => e = .returned (.int .i64 (wrap64 (uS l))) ∧ w = w' := by
  obtain rfl := hr.len
  have hcap := hr.cap
  unfold maxLen at hcap
  go_enter Tryz.func73, Tryz.ntmps73
  go_wp2
  go_loop [3, 4, 7] (fun s _ i => ∃ (k : Nat) (x : Int), k ≤ l.length ∧ i = .int .i64 k ∧ s = .int .i64 x ∧ Hid (x = wrap64 (uS (l.take k)))) (fun _ _ i => l.length - (intOf i).toNat)
  case atStart => exact ⟨0, 0, Nat.zero_le _, rfl, rfl, (by show _ = _; simp [uS, wrap64_zero])⟩
  case round =>
    obtain ⟨k, x, hk, rfl, rfl, HX⟩ := hrel
    by_cases hlt : k < l.length
    · obtain ⟨b, off, D, dn, dc, rfl, hc0, hc1, hc2, hc3, hrD, -⟩ := hr.blob hlt
      have hki : (k : Int) < (l.length : Int) := by omega
      have hdl : dn = l[k].dt.length := hrD.len
      have HY : Hid (wrap64 (x + (dn : Int)) = wrap64 (uS (l.take (k + 1)))) := by show _ = _; rw [uS_step hlt, HX.out, wrap64_add, hdl]
      clear hdl hrD
      generalize l[k] = p at *
      go_wp2
      go_round
      case rel => exact ⟨k + 1, _, by omega, by go_num, rfl, HY.out⟩
      case measure => simp [intOf] <;> omega
    · have hd2 : decide ((k : Int) < (l.length : Int)) = false := by rw [decide_eq_false_iff_not]; omega
      have HF : Hid (x = wrap64 (uS l)) := by show _ = _; rw [HX.out, List.take_of_length_le (by omega)]
      go_wp2
      go_ret
      exact ⟨ret_int HF.out, rfl⟩
end Go.Proofs.YtdbdigcpibmgjaaGreatDoor
/- The landed room.Used, room.Lacks, room.Fits. -/
namespace Go.Proofs.YtdbdigcpibmgjaaGreatDoor
open Go.RowKit
set_option maxRecDepth 100000 in
set_option maxHeartbeats 1000000 in
theorem used_any (A : Option Addr) (n c : Nat) (l : List Bl) (w : World) (hr : KRd kBl w A n c l) :
    Calls Tryz.prog 149 #[.slice A n c] w fun e w' => e = .returned (.int .i64 (wrap64 (uS l))) ∧ Below w.heap.size w w' := by
  obtain rfl := hr.len
  have hcap := hr.cap
  unfold maxLen at hcap
  go_enter Tryz.func149, Tryz.ntmps149
  go_wp2
  go_loopw [3, 5, 8] (fun s _ i wr => ∃ (k : Nat) (x : Int), k ≤ l.length ∧ i = .int .i64 k ∧ s = .int .i64 x ∧ Hid (x = wrap64 (uS (l.take k))) ∧ Below w.heap.size w wr) (fun _ _ i _ => l.length - (intOf i).toNat)
  case atStart => exact ⟨0, 0, Nat.zero_le _, rfl, rfl, (by show _ = _; simp [uS, wrap64_zero]), Below.refl _ _⟩
  case round =>
    obtain ⟨k, x, hk, rfl, rfl, HX, hbel⟩ := hrel
    by_cases hlt : k < l.length
    · obtain ⟨b, off, D, dn, dc, rfl, hc0, hc1, hc2, hc3, hrD, -⟩ := (hr.below hbel).blob hlt
      have hki : (k : Int) < (l.length : Int) := by omega
      have hdl : dn = l[k].dt.length := hrD.len
      have HY : Hid (wrap64 (x + (dn : Int)) = wrap64 (uS (l.take (k + 1)))) := by show _ = _; rw [uS_step hlt, HX.out, wrap64_add, hdl]
      clear hdl hrD
      generalize l[k] = p at *
      have hal := (Below.refl wr.heap.size wr).alloc (Nat.le_refl _) (.cells #[.string (str p.dg), .slice D dn dc, .int .i64 p.pn, .bool p.mr] 45)
      have hbk := Blk.new wr 45 [.string (str p.dg), .slice D dn dc, .int .i64 p.pn, .bool p.mr]
      have e1 := hbk.cell 1
      simp only [List.getElem?_cons_succ, List.getElem?_cons_zero] at e1
      have hbA := below_step hbel hal
      clear hal
      go_wp2
      go_roundw
      case rel => exact ⟨k + 1, _, by omega, by go_num, rfl, HY.out, hbA⟩
      case measure => simp [intOf] <;> omega
    · have hd2 : decide ((k : Int) < (l.length : Int)) = false := by rw [decide_eq_false_iff_not]; omega
      have HF : Hid (x = wrap64 (uS l)) := by show _ = _; rw [HX.out, List.take_of_length_le (by omega)]
      go_wp2
      go_ret
      exact ⟨ret_int HF.out, hbel⟩
/-- a number of bytes that may be -/
def inR (a : Int) : Bool := decide (0 ≤ a) && decide (a ≤ 4000)
set_option maxRecDepth 100000 in
set_option maxHeartbeats 400000 in
theorem inRange_at (a : Int) (v : Bool) (h : inR a = v) (w : World) :
    Calls Tryz.prog 148 #[.int .i64 a] w fun e w' => e = .returned (.bool v) ∧ w = w' := by
  subst h
  by_cases p1 : 0 ≤ a
  · by_cases p2 : a ≤ 4000
    · have d1 : decide (0 ≤ a) = true := by simpa using p1
      have d2 : decide (a ≤ 4000) = true := by simpa using p2
      have HF : Hid (inR a = true) := by show _ = _; simp [inR, p1, p2]
      go_enter Tryz.func148, Tryz.ntmps148
      go_wp2
      go_ret
      rw [HF.out]
      exact ⟨rfl, rfl⟩
    · have d1 : decide (0 ≤ a) = true := by simpa using p1
      have d2 : decide (a ≤ 4000) = false := by simpa using p2
      have HF : Hid (inR a = false) := by show _ = _; simp [inR, p2]
      go_enter Tryz.func148, Tryz.ntmps148
      go_wp2
      go_ret
      rw [HF.out]
      exact ⟨rfl, rfl⟩
  · have d1 : decide (0 ≤ a) = false := by simpa using p1
    have HF : Hid (inR a = false) := by show _ = _; simp [inR, p1]
    go_enter Tryz.func148, Tryz.ntmps148
    go_wp2
    go_ret
    rw [HF.out]
    exact ⟨rfl, rfl⟩
theorem rL_out {l : List Bl} {a b : Int} (h : inR a = false ∨ inR b = false) : rL l a b = (0, 4) := by
  unfold rL
  rw [if_pos]
  rcases h with h | h
  · unfold inR at h; simp at h; omega
  · unfold inR at h; simp at h; omega
theorem rL_in {l : List Bl} {a b : Int} (h : inR a = true) (h' : inR b = true) : rL l a b = (if 0 < wrap64 (wrap64 (wrap64 (uS l) + b) - a) then wrap64 (wrap64 (wrap64 (uS l) + b) - a) else 0, 0) := by
  unfold inR at h h'
  simp at h h'
  unfold rL
  rw [if_neg (by omega)]
  generalize wrap64 (wrap64 (wrap64 (uS l) + b) - a) = x
  split <;> split <;> simp <;> omega
set_option maxRecDepth 100000 in
set_option maxHeartbeats 1000000 in
theorem lacks_any (A : Option Addr) (n c : Nat) (l : List Bl) (a b : Int) (w : World) (hr : KRd kBl w A n c l) :
    Calls Tryz.prog 100 #[.slice A n c, .int .i64 a, .int .i64 b] w fun e w' => e = .returned (.tuple #[.int .i64 (rL l a b).1, .int .i64 (rL l a b).2]) ∧ Below w.heap.size w w' := by
  cases ha : inR a
  · have HF : Hid (rL l a b = (0, 4)) := rL_out (.inl ha)
    have HA := Lib.hid ha
    clear ha
    go_enter Tryz.func100, Tryz.ntmps100
    go_wp2_with fail
    with_reducible refine (inRange_at a false HA.out _).mono ?_
    rintro e w1 ⟨rfl, rfl⟩
    go_wp2
    go_ret2
    rw [HF.out]
    exact ⟨rfl, Below.refl _ _⟩
  · cases hb : inR b
    · have HF : Hid (rL l a b = (0, 4)) := rL_out (.inr hb)
      have HA := Lib.hid ha
      have HB := Lib.hid hb
      clear ha hb
      go_enter Tryz.func100, Tryz.ntmps100
      go_wp2_with fail
      with_reducible refine (inRange_at a true HA.out _).mono ?_
      rintro e w1 ⟨rfl, rfl⟩
      go_wp2_with fail
      with_reducible refine (inRange_at b false HB.out _).mono ?_
      rintro e w1 ⟨rfl, rfl⟩
      go_wp2
      go_ret2
      rw [HF.out]
      exact ⟨rfl, Below.refl _ _⟩
    · have HF : Hid (rL l a b = (if 0 < wrap64 (wrap64 (wrap64 (uS l) + b) - a) then wrap64 (wrap64 (wrap64 (uS l) + b) - a) else 0, 0)) := rL_in ha hb
      have HA := Lib.hid ha
      have HB := Lib.hid hb
      have HUU := Lib.hid (used_any A n c l w hr)
      clear ha hb
      generalize wrap64 (uS l) = u at *
      by_cases hp : 0 < wrap64 (wrap64 (u + b) - a)
      · have HP : Hid (rL l a b = (wrap64 (wrap64 (u + b) - a), 0)) := by show _ = _; rw [HF.out, if_pos hp]
        clear HF
        go_enter Tryz.func100, Tryz.ntmps100
        go_wp2_with fail
        with_reducible refine (inRange_at a true HA.out _).mono ?_
        rintro e w1 ⟨rfl, rfl⟩
        go_wp2_with fail
        with_reducible refine (inRange_at b true HB.out _).mono ?_
        rintro e w1 ⟨rfl, rfl⟩
        go_wp2_with fail
        with_reducible refine HUU.out.mono ?_
        rintro e w1 ⟨rfl, hb1⟩
        go_wp2
        go_ret2
        rw [HP.out]
        exact ⟨rfl, hb1⟩
      · have HP : Hid (rL l a b = (0, 0)) := by show _ = _; rw [HF.out, if_neg hp]
        clear HF
        go_enter Tryz.func100, Tryz.ntmps100
        go_wp2_with fail
        with_reducible refine (inRange_at a true HA.out _).mono ?_
        rintro e w1 ⟨rfl, rfl⟩
        go_wp2_with fail
        with_reducible refine (inRange_at b true HB.out _).mono ?_
        rintro e w1 ⟨rfl, rfl⟩
        go_wp2_with fail
        with_reducible refine HUU.out.mono ?_
        rintro e w1 ⟨rfl, hb1⟩
        go_wp2
        go_ret2
        rw [HP.out]
        exact ⟨rfl, hb1⟩
/-- does it fit: the error -/
def rF (l : List Bl) (a b : Int) : Int := if (rL l a b).2 = 0 then (if 0 < (rL l a b).1 then 7 else 0) else (rL l a b).2
set_option maxRecDepth 100000 in
set_option maxHeartbeats 1000000 in
theorem fits_any (A : Option Addr) (n c : Nat) (l : List Bl) (a b : Int) (w : World) (hr : KRd kBl w A n c l) :
    Calls Tryz.prog 65 #[.slice A n c, .int .i64 a, .int .i64 b] w fun e w' => e = .returned (.int .i64 (rF l a b)) ∧ Below w.heap.size w w' := by
  have HL := Lib.hid (lacks_any A n c l a b w hr)
  obtain ⟨r, hr'⟩ : ∃ r, rF l a b = r := ⟨_, rfl⟩
  rw [hr']
  have HR := Lib.hid hr'
  unfold rF at HR
  clear hr' hr
  generalize (rL l a b).1 = x at *
  generalize (rL l a b).2 = y at *
  by_cases p1 : y = 0
  · subst p1
    by_cases p2 : 0 < x
    · have HF : Hid (r = 7) := by show _ = _; rw [← HR.out, if_pos rfl, if_pos p2]
      have d2 : decide (0 < x) = true := by simpa using p2
      go_enter Tryz.func65, Tryz.ntmps65
      go_wp2_with fail
      with_reducible refine HL.out.mono ?_
      rintro e w1 ⟨rfl, hb1⟩
      go_wp2
      go_ret
      exact ⟨ret_int HF.out.symm, hb1⟩
    · have HF : Hid (r = 0) := by show _ = _; rw [← HR.out, if_pos rfl, if_neg p2]
      have d2 : decide (0 < x) = false := by simpa using p2
      go_enter Tryz.func65, Tryz.ntmps65
      go_wp2_with fail
      with_reducible refine HL.out.mono ?_
      rintro e w1 ⟨rfl, hb1⟩
      go_wp2
      go_ret
      exact ⟨ret_int HF.out.symm, hb1⟩
  · have HF : Hid (r = y) := by show _ = _; rw [← HR.out, if_neg p1]
    have d1 : (y != 0) = true := by rw [bne_iff_ne]; exact p1
    go_enter Tryz.func65, Tryz.ntmps65
    go_wp2_with fail
    with_reducible refine HL.out.mono ?_
    rintro e w1 ⟨rfl, hb1⟩
    go_wp2
    go_ret
    exact ⟨ret_int HF.out.symm, hb1⟩
end Go.Proofs.YtdbdigcpibmgjaaGreatDoor
