/- Texts that belong together: what the functions of the program and of the statements return. -/
import Derived.Test.YtnadgdjaldemhaaGreatDoorRows
import Derived.Test.YtnadgdjaldemhaaGreatDoorGX
import Derived.Test.YtnadgdjaldemhaaGreatDoorGA
import Derived.Test.YtnadgdjaldemhaaGreatDoorGA
import Derived.OneCell
import Derived.Test.YtnadgdjaldemhaaGreatDoorGB
/- Reading a manifest: plain functions; what is kept beside a struct variable. -/
namespace Go.Proofs.YtnadgdjaldemhaaGreatDoor
open Go.RowKit
/-- reading k parts more, behind those that are read, and the end -/
def rdTail : Nat → List Prt → List UInt8 → Int × List Prt
  | 0, acc, r => if 0 < r.length then (3, []) else if psErr acc ≠ 0 then (psErr acc, []) else (0, acc)
  | k + 1, acc, r =>
    if tErr r ≠ 0 then (tErr r, []) else if (tRest r).length < 32 then (8, [])
    else if rErr ((tRest r).drop 32) ≠ 0 then (rErr ((tRest r).drop 32), [])
    else rdTail k (acc ++ [⟨tStr r, hexT ((tRest r).take 32), (rVal ((tRest r).drop 32) : Int)⟩]) (rRest ((tRest r).drop 32))
/-- reading a manifest: the error and the parts -/
def dec (l : List UInt8) : Int × List Prt :=
  if 2000 < l.length then (1, []) else if l.length < 3 ∨ l.take 3 ≠ [65, 77, 49] then (3, [])
  else if rErr (l.drop 3) ≠ 0 then (rErr (l.drop 3), []) else if 8 < rVal (l.drop 3) then (1, [])
  else rdTail (rVal (l.drop 3)) [] (rRest (l.drop 3))
theorem rRest_le (l : List UInt8) : (rRest l).length ≤ l.length := by
  unfold rRest; split
  · rw [List.length_drop]; omega
  · simp
theorem tRest_le (l : List UInt8) : (tRest l).length ≤ l.length := by
  unfold tRest; split
  · rw [List.length_drop]; have := rRest_le l; omega
  · simp
theorem tStr_le (l : List UInt8) : (tStr l).length ≤ l.length := by
  unfold tStr; split
  · rw [List.length_take]; have := rRest_le l; omega
  · simp
/-- bytes are kept where a cell of a block that holds no byte is written -/
theorem Rd.put_other {w : World} {A : Option Addr} {n c : Nat} {l : List UInt8} (h : Rd w 1 A n c (l.map bv8)) {g : Nat} {t : TypeId} {xs : List Value} (hg : Blk w g t xs) (hx : ∀ v ∈ xs, ∀ y, v ≠ bv8 y) (i : Nat) (u : Value) :
    Rd (w.setCell ⟨g, i, none⟩ u) 1 A n c (l.map bv8) := by
  obtain ⟨h1, h2, h3, h4⟩ := h
  refine ⟨h1, h2, h3, fun hp => ?_⟩
  obtain ⟨b, off, rfl, hc⟩ := h4 hp
  refine ⟨b, off, rfl, fun j v hv => ?_⟩
  have hcj := hc j v hv
  have hne : b ≠ g := by
    rintro rfl
    rw [hg.cell] at hcj
    have hm : v ∈ xs := List.mem_of_getElem? hcj
    rw [List.getElem?_map] at hv
    obtain ⟨y, _, rfl⟩ := Option.map_eq_some_iff.1 hv
    exact hx _ hm y rfl
  have ho : (⟨g, i, none⟩ : Addr) ≠ ⟨b, off + j, none⟩ := by
    intro e
    injection e with e1 _
    exact hne e1.symm
  exact (World.cell?_setCell_other _ _ _ _ ho).trans hcj
/-- a slice is kept where its own block is kept -/
theorem Rd.keepAt {w w' : World} {size n c : Nat} {A : Option Addr} {xs : List Value} (h : Rd w size A n c xs) (hk : ∀ a : Addr, A = some a → w'.heap[a.block]? = w.heap[a.block]?) : Rd w' size A n c xs := by
  obtain ⟨h1, h2, h3, h4⟩ := h
  refine ⟨h1, h2, h3, fun hp => ?_⟩
  obtain ⟨b, off, rfl, hc⟩ := h4 hp
  refine ⟨b, off, rfl, fun j v hv => ?_⟩
  have hcj := hc j v hv
  have hb := hk _ rfl
  unfold World.cell? at hcj ⊢
  simp only at hcj hb ⊢
  rw [hb]; exact hcj
/-- a manifest's parts, or none, and an error -/
def GivesP (l : List Prt) (err : Int) (w : World) (e : Ending) (w' : World) : Prop :=
  ∃ A n c, e = .returned (.tuple #[.slice A n c, .int .i64 err]) ∧ Rd w' 3 A n c (pcs l) ∧ (A = none → c = 0) ∧ Below w.heap.size w w'
theorem givesP_nil {w : World} {err : Int} {e : Ending} {w' : World} (h : e = .returned (.tuple #[.slice none 0 0, .int .i64 err]) ∧ Below w.heap.size w w') : GivesP [] err w e w' := by
  obtain ⟨rfl, hb⟩ := h
  exact ⟨none, 0, 0, rfl, Rd.nil _ _, fun _ => rfl, hb⟩
theorem part_info : (Tryz.prog.info? 55).map (fun i => (i.zero, i.size, i.bytes)) = some (some (.agg #[.string ByteArray.empty, .string ByteArray.empty, .int .i64 0]), 3, 40) := by kernel_rfl
end Go.Proofs.YtnadgdjaldemhaaGreatDoor
/- A manifest's bytes and back: plain facts. -/
namespace Go.Proofs.YtnadgdjaldemhaaGreatDoor
open Go.RowKit
theorem mB_parts (p : Prt) (r : List UInt8) : mB p ++ r = txt p.nm ++ (unh p.dg ++ (enc p.sz.toNat ++ r)) := by
  unfold mB txt; simp only [List.append_assoc]
theorem rdTail_succ (k : Nat) (acc : List Prt) (r : List UInt8) : rdTail (k + 1) acc r = if tErr r ≠ 0 then (tErr r, []) else if (tRest r).length < 32 then (8, [])
    else if rErr ((tRest r).drop 32) ≠ 0 then (rErr ((tRest r).drop 32), [])
    else rdTail k (acc ++ [⟨tStr r, hexT ((tRest r).take 32), (rVal ((tRest r).drop 32) : Int)⟩]) (rRest ((tRest r).drop 32)) := rfl
/-- reading parts that were written -/
theorem rdTail_back : ∀ (l acc : List Prt) (r : List UInt8), (∀ p ∈ l, p.fine) → rdTail l.length acc (mBs l ++ r) = rdTail 0 (acc ++ l) r
  | [], acc, r, _ => by rw [List.append_nil]; rfl
  | p :: l, acc, r, h => by
    obtain ⟨_, h1, h2, h3, h4, h5, h6⟩ := h p (by simp)
    have hu : (unh p.dg).length = 32 := by rw [unh_length, h3]
    rw [mBs_cons, List.append_assoc, mB_parts, List.length_cons, rdTail_succ]
    obtain ⟨t0, t1, t2⟩ := text_read p.nm (unh p.dg ++ (enc p.sz.toNat ++ (mBs l ++ r))) (by omega)
    rw [t0, t1, t2, if_neg (by omega), if_neg (by rw [List.length_append]; omega), List.drop_left' hu, List.take_left' hu]
    obtain ⟨r0, r1, _, r3⟩ := read_enc (n := p.sz.toNat) (by omega) (mBs l ++ r)
    rw [r0, r1, r3, if_neg (by omega), hexT_unh _ (by omega) h4, show ((p.sz.toNat : Nat) : Int) = p.sz from by omega]
    rw [rdTail_back l (acc ++ [p]) r (fun q hq => h q (by simp [hq])), List.append_assoc]
    rfl
/-- reading a manifest that was written, and bytes behind it -/
theorem dec_man {l : List Prt} (h : psErr l = 0) (r : List UInt8) (hr : r.length ≤ 1000) : dec (man l ++ r) = if 0 < r.length then (3, []) else (0, l) := by
  obtain ⟨h1, h2⟩ := psErr_zero h
  obtain ⟨h3, h4⟩ := man_length h
  have e : man l ++ r = [65, 77, 49] ++ (enc l.length ++ (mBs l ++ r)) := by unfold man; simp only [List.append_assoc]
  have hlen : (man l ++ r).length ≤ 1500 := by rw [List.length_append]; omega
  have hlen3 : 3 ≤ (man l ++ r).length := by rw [List.length_append]; omega
  obtain ⟨r0, r1, _, r3⟩ := read_enc (n := l.length) (by omega) (mBs l ++ r)
  unfold dec
  rw [if_neg (by omega)]
  rw [if_neg (by rintro (q | q); · omega
                 · exact q (by rw [e]; rfl))]
  have ed : (man l ++ r).drop 3 = enc l.length ++ (mBs l ++ r) := by rw [e]; rfl
  rw [ed, r0, r1, r3, if_neg (by omega), if_neg (by omega), rdTail_back l [] r h2, List.nil_append, rdTail]
  split
  · rfl
  · rw [h, if_neg (by omega)]
/-- what is read was written so -/
theorem rdTail_turn : ∀ (k : Nat) (acc : List Prt) (r : List UInt8), (rdTail k acc r).1 = 0 → ∃ l : List Prt, l.length = k ∧ (rdTail k acc r).2 = acc ++ l ∧ mBs l = r ∧ psErr (acc ++ l) = 0
  | 0, acc, r, h => by
    rw [rdTail] at h ⊢
    split at h
    · simp at h
    · rename_i h1
      split at h
      · rename_i h2; exact absurd h h2
      · rename_i h2
        have h3 : psErr acc = 0 := Classical.byContradiction h2
        have h4 : r = [] := List.eq_nil_of_length_eq_zero (by omega)
        refine ⟨[], rfl, ?_, ?_, ?_⟩
        · rw [if_neg h1, if_neg h2, List.append_nil]
        · rw [h4]; rfl
        · rw [List.append_nil]; exact h3
  | k + 1, acc, r, h => by
    rw [rdTail] at h ⊢
    split at h
    · rename_i h1; exact absurd h h1
    · rename_i h1
      split at h
      · simp at h
      · rename_i h2
        split at h
        · rename_i h3; exact absurd h h3
        · rename_i h3
          obtain ⟨l, hl, h4, h5, h6⟩ := rdTail_turn k _ _ h
          have t0 : tErr r = 0 := Classical.byContradiction h1
          have r0 : rErr ((tRest r).drop 32) = 0 := Classical.byContradiction h3
          refine ⟨⟨tStr r, hexT ((tRest r).take 32), (rVal ((tRest r).drop 32) : Int)⟩ :: l, by rw [List.length_cons, hl], ?_, ?_, ?_⟩
          · rw [if_neg h1, if_neg h2, if_neg h3, h4, List.append_assoc]; rfl
          · rw [mBs_cons, mB_parts, h5]
            simp only [unh_hexT, Int.toNat_natCast]
            rw [read_turn r0, List.take_append_drop, text_turn t0]
          · rw [List.append_assoc] at h6; exact h6
theorem dec_turn {b : List UInt8} (h : (dec b).1 = 0) : man (dec b).2 = b ∧ psErr (dec b).2 = 0 := by
  unfold dec at h ⊢
  split at h
  · simp at h
  · rename_i h1
    split at h
    · simp at h
    · rename_i h2
      split at h
      · rename_i h3; exact absurd h h3
      · rename_i h3
        split at h
        · simp at h
        · rename_i h4
          obtain ⟨l, hl, h5, h6, h7⟩ := rdTail_turn _ _ _ h
          rw [if_neg h1, if_neg h2, if_neg h3, if_neg h4, h5, List.nil_append]
          rw [List.nil_append] at h7
          have r0 : rErr (b.drop 3) = 0 := Classical.byContradiction h3
          have h8 : b.take 3 = [65, 77, 49] := Classical.byContradiction fun q => h2 (.inr q)
          refine ⟨?_, h7⟩
          unfold man
          rw [hl, h6, List.append_assoc, read_turn r0, ← h8, List.take_append_drop]
/-- no beginning of a manifest is one -/
theorem dec_torn {l : List Prt} (h : psErr l = 0) {p : Nat} (hp : p < (man l).length) : (dec ((man l).take p)).1 ≠ 0 := by
  intro h0
  obtain ⟨h1, h2⟩ := dec_turn h0
  have e : man l = man (dec ((man l).take p)).2 ++ (man l).drop p := by rw [h1, List.take_append_drop]
  have h3 := man_length h
  have h4 := dec_man h2 ((man l).drop p) (by rw [List.length_drop]; omega)
  rw [← e, if_pos (by rw [List.length_drop]; omega)] at h4
  have h5 := dec_man h [] (by simp)
  rw [List.append_nil, h4] at h5
  simp at h5
end Go.Proofs.YtnadgdjaldemhaaGreatDoor
