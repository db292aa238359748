/- Texts that belong together: what the functions of the program and of the statements return. -/
import Derived.Test.YtdbdigcpibmgjaaGreatDoorGRB
import Derived.Maps.OwnSet
import Derived.Sort.KeysCollected
import Derived.Lib.SlicesCompact
import Derived.Sort.Walk0
import Derived.Test.YtdbdigcpibmgjaaGreatDoorQShg
import Derived.Test.YtdbdigcpibmgjaaGreatDoorGD
import Derived.Test.YtdbdigcpibmgjaaGreatDoorGC
import Derived.Test.YtdbdigcpibmgjaaGreatDoorGRC
import Derived.Deep.RegionHeldLaw
/- Maps of texts that a call makes, as functions of their keys. -/
namespace Go.Proofs.YtdbdigcpibmgjaaGreatDoor
open Go.RowKit Go.Maps
/-- a value as it stands -/
def hv (v : Value) : Option (DataW Value × List MemPlace) := some (.held v, [])
/-- block b is a map of at most n entries; it is the function f -/
def MapF (w : World) (b n : Nat) (f : List UInt8 → Option Value) : Prop :=
  ∃ D : DataW Value, w.ownsMap Tryz.prog 9 hv b n D ∧ ∀ s, Maps.has D (.string s) = (f s).isSome ∧ ∀ v, f s = some v → ∀ z, D.atKey (.string s) z = .held v
section
variable {w w' : World} {b n : Nat} {f : List UInt8 → Option Value}
theorem strK : Keyed Tryz.prog 9 := string_keyed Tryz.underlying9
theorem strKey {s : List UInt8} (h : s.length ≤ maxLen) : keyOf Tryz.prog 9 (.string (str s)) = some (.string s) := by
  have h2 : (str s).size ≤ maxLen := h
  have e : keyOf Tryz.prog 9 (.string (str s)) = some (.string (str s).data.toList) := WideMaps.keyOf_string_mk Tryz.underlying9 h2
  rw [e]
  simp [str]
theorem MapF.made (w : World) : MapF (w.alloc (.map #[] 0)) w.heap.size 0 (fun _ => none) :=
  ⟨_, World.ownsMap_made w _ _ _, fun s => ⟨rfl, fun v h => by cases h⟩⟩
theorem MapF.lt (h : MapF w b n f) : b < w.heap.size := by
  obtain ⟨D, ho, _⟩ := h
  exact ho.lt
theorem MapF.mono (h : MapF w b n f) {m : Nat} (hm : n ≤ m) : MapF w b m f := by
  obtain ⟨D, ho, hf⟩ := h
  exact ⟨D, ho.mono hm, hf⟩
theorem MapF.below (h : MapF w b n f) (hb : Below w.heap.size w w') : MapF w' b n f := by
  have hlt := h.lt
  obtain ⟨D, ⟨es, clock, hB, F, hs, hD⟩, hf⟩ := h
  exact ⟨D, ⟨es, clock, (hb.block b hlt).trans hB, F, hs, hD⟩, hf⟩
theorem MapF.belowB {B : Nat} (h : MapF w b n f) (hb : Below B w w') (hB : b < B) : MapF w' b n f := by
  obtain ⟨D, ⟨es, clock, hW, F, hs, hD⟩, hf⟩ := h
  exact ⟨D, ⟨es, clock, (hb.block b hB).trans hW, F, hs, hD⟩, hf⟩
theorem MapF.kept {row : Option Nat} (h : MapF w b n f) (hg : w.grownBy w' row) (hne : some b ≠ row) : MapF w' b n f := by
  obtain ⟨D, ho, hf⟩ := h
  exact ⟨D, ho.kept hg hne, hf⟩
theorem MapF.alloc (h : MapF w b n f) (o : Obj) : MapF (w.alloc o) b n f := h.below ((Below.refl _ _).alloc (Nat.le_refl _) o)
theorem MapF.congr (h : MapF w b n f) {g : List UInt8 → Option Value} (e : ∀ s, f s = g s) : MapF w b n g := by
  have : f = g := funext e
  rw [← this]; exact h
/-- 'v, ok := m[s]' -/
theorem MapF.look_ok {t e : TypeId} (h : MapF w b n f) (ht : Tryz.prog.underlying t = some (.map 9 e)) {z : Value} (hz : (zeroValue e).run Tryz.prog w = .ok z w) {s : List UInt8} (hs : s.length ≤ maxLen) :
    (Instr.lookup t (.map (some b)) (.string (str s)) true).run Tryz.prog w = .ok (.tuple #[(f s).getD z, .bool (f s).isSome]) w := by
  obtain ⟨D, ho, hf⟩ := h
  obtain ⟨v, ps, hrun, hv'⟩ := ho.look_ok strK ht hz (zd := .held z) (zp := []) rfl (strKey hs)
  rw [hrun, (hf s).1]
  have hv2 : DataW.held v = D.atKey (.string s) (.held z) := by
    unfold hv at hv'
    exact congrArg Prod.fst (Option.some.inj hv')
  cases hq : f s with
  | none =>
    rw [atKey_of_not_has (by rw [(hf s).1, hq]; rfl)] at hv2
    rw [DataW.held.inj hv2]
    simp only [Option.getD_none]
  | some x =>
    rw [(hf s).2 x hq] at hv2
    rw [DataW.held.inj hv2]
    simp only [Option.getD_some]
/-- 'm[s]' -/
theorem MapF.look {t e : TypeId} (h : MapF w b n f) (ht : Tryz.prog.underlying t = some (.map 9 e)) {z : Value} (hz : (zeroValue e).run Tryz.prog w = .ok z w) {s : List UInt8} (hs : s.length ≤ maxLen) :
    (Instr.lookup t (.map (some b)) (.string (str s)) false).run Tryz.prog w = .ok ((f s).getD z) w := by
  obtain ⟨D, ho, hf⟩ := h
  obtain ⟨v, ps, hrun, hv'⟩ := ho.lookup strK ht hz (zd := .held z) (zp := []) rfl (strKey hs)
  rw [hrun]
  have hv2 : DataW.held v = D.atKey (.string s) (.held z) := by
    unfold hv at hv'
    exact congrArg Prod.fst (Option.some.inj hv')
  cases hq : f s with
  | none =>
    rw [atKey_of_not_has (by rw [(hf s).1, hq]; rfl)] at hv2
    rw [DataW.held.inj hv2]
    simp only [Option.getD_none]
  | some x =>
    rw [(hf s).2 x hq] at hv2
    rw [DataW.held.inj hv2]
    simp only [Option.getD_some]
/-- 'm[s] = v' -/
theorem MapF.update {t e : TypeId} (h : MapF w b n f) (ht : Tryz.prog.underlying t = some (.map 9 e)) (hn : n < maxLen) {s : List UInt8} (hs : s.length ≤ maxLen) (v : Value) :
    ∃ w', (Instr.mapUpdate t (.map (some b)) (.string (str s)) v).run Tryz.prog w = .ok () w' ∧ MapF w' b (n + 1) (fun x => if x = s then some v else f x) ∧ w.grownBy w' (some b) := by
  obtain ⟨D, ho, hf⟩ := h
  obtain ⟨w', hrun, ho', hg⟩ := ho.update strK ht hn (d := .held v) (ps := []) (strKey hs) rfl
  have hk : WideAt.IsKeyLit (.string s) := trivial
  refine ⟨w', hrun, ⟨_, ho', fun x => ?_⟩, hg⟩
  by_cases hx : x = s
  · subst hx
    show _ = (if x = x then some v else f x).isSome ∧ ∀ v', (if x = x then some v else f x) = some v' → _
    rw [if_pos rfl]
    exact ⟨has_put_same ho.isMap hk _, fun v' h z => by rw [atKey_put_same ho.isMap hk, Option.some.inj h]⟩
  · show _ = (if x = s then some v else f x).isSome ∧ ∀ v', (if x = s then some v else f x) = some v' → _
    rw [if_neg hx]
    have hne : Lit.string x ≠ .string s := fun q => hx (by injection q)
    exact ⟨by rw [has_put_other hne]; exact (hf x).1, fun v' h z => by rw [atKey_put_other hne]; exact (hf x).2 v' h z⟩
/-- what the library's contracts of a map's keys want, and what they give -/
theorem MapF.keys (h : MapF w b n f) : ∃ D : DataW Value, w.ownsMap Tryz.prog 9 hv b n D ∧ Maps.size D ≤ n ∧ (strKeys D).Nodup ∧ ∀ s, s ∈ strKeys D ↔ (f s).isSome = true := by
  obtain ⟨D, ho, hf⟩ := h
  refine ⟨D, ho, ho.size_le, ?_⟩
  obtain ⟨es, hD, hpw⟩ := ho.tidy strK
  obtain ⟨es', hD', hko⟩ := ho.keysOf
  obtain rfl : es = es' := by rw [hD] at hD'; simpa using hD'
  subst hD
  have hk : ∀ p ∈ es, ∃ x, p.1 = .string x := fun p hp => by
    obtain ⟨v, hv⟩ := hko p hp
    obtain ⟨x, _, hx, _⟩ := Maps.keyOf_str Tryz.underlying9 hv
    exact ⟨x, hx⟩
  constructor
  · show (es.map fun p => strOf p.1).Nodup
    refine List.pairwise_map.2 (hpw.imp_of_mem fun {p q} hp' hq' hne e => hne ?_)
    obtain ⟨a, ha⟩ := hk p hp'
    obtain ⟨c, hc⟩ := hk q hq'
    rw [ha, hc] at e ⊢
    exact congrArg _ e
  · intro x
    rw [← (hf x).1, has_eq, List.any_eq_true]
    show x ∈ es.map (fun p => strOf p.1) ↔ _
    rw [List.mem_map]
    constructor
    · rintro ⟨p, hp', rfl⟩
      obtain ⟨a, ha⟩ := hk p hp'
      exact ⟨p, hp', by rw [ha]; simp [Lit.sameKey, strOf]⟩
    · rintro ⟨p, hp', hs⟩
      obtain ⟨a, ha⟩ := hk p hp'
      rw [ha] at hs
      exact ⟨p, hp', by rw [ha]; simpa [Lit.sameKey, strOf] using hs⟩
end
end Go.Proofs.YtdbdigcpibmgjaaGreatDoor
/- Package reach: firstByDigest. -/
namespace Go.Proofs.YtdbdigcpibmgjaaGreatDoor
open Go.RowKit
/-- a blob as a value -/
def bVal (x : Bl × Hd) : Value := .agg #[.string (str x.1.dg), .slice x.2.A x.2.n x.2.c, .int .i64 x.1.pn, .bool x.1.mr]
/-- the first blobs of their digests, of the first k blobs -/
def fstF (hs : List (Bl × Hd)) (k : Nat) (s : List UInt8) : Option Value := if bAt (hs.map Prod.fst) s < k then (hs[bAt (hs.map Prod.fst) s]?).map bVal else none
theorem run_makeMapN {t k e : TypeId} (ht : Tryz.prog.underlying t = some (.map k e)) (n : Nat) (w : World) : (Instr.makeMap t (some (.int .i64 (n : Int)))).run Tryz.prog w = .ok (.map (some w.heap.size)) (w.alloc (.map #[] 0)) := by
  simp [Instr.makeMap, run_underlying ht, Result.andThen, asInt, asIntOf]
theorem fstF_zero (hs : List (Bl × Hd)) (s : List UInt8) : fstF hs 0 s = none := by
  unfold fstF; rw [if_neg (by omega)]
theorem fstF_end (hs : List (Bl × Hd)) (s : List UInt8) : fstF hs hs.length s = (hs[bAt (hs.map Prod.fst) s]?).map bVal := by
  unfold fstF
  split
  · rfl
  · rename_i h
    rw [List.getElem?_eq_none (by omega)]; rfl
theorem dg_at {hs : List (Bl × Hd)} {k : Nat} (hk : k < hs.length) : (hs.map Prod.fst)[k]'(by simpa using hk) = hs[k].1 := by simp
theorem bAt_self {hs : List (Bl × Hd)} {k : Nat} (hk : k < hs.length) : bAt (hs.map Prod.fst) hs[k].1.dg ≤ k := by
  have hlt : k < (hs.map Prod.fst).length := by simpa using hk
  rcases Nat.lt_or_ge k (bAt (hs.map Prod.fst) hs[k].1.dg) with q | q
  · have := List.not_of_lt_findIdx (xs := hs.map Prod.fst) (p := fun b => b.dg == hs[k].1.dg) q
    simp at this
  · exact q
/-- another blob of a digest that was met changes nothing -/
theorem fstF_old {hs : List (Bl × Hd)} {k : Nat} (hk : k < hs.length) (h : bAt (hs.map Prod.fst) hs[k].1.dg < k) (s : List UInt8) : fstF hs (k + 1) s = fstF hs k s := by
  unfold fstF
  by_cases q : bAt (hs.map Prod.fst) s < k
  · rw [if_pos q, if_pos (by omega)]
  · rw [if_neg q]
    split
    · rename_i q2
      exfalso
      have e : bAt (hs.map Prod.fst) s = k := by omega
      have h1 := bAt_there (l := hs.map Prod.fst) (d := s) (by rw [e]; simpa using hk)
      have h2 : (hs.map Prod.fst)[bAt (hs.map Prod.fst) s]'(by rw [e]; simpa using hk) = hs[k].1 := by
        rw [← dg_at hk]; congr 1
      rw [h2] at h1
      rw [← h1] at e
      omega
    · rfl
/-- the first blob of a digest -/
theorem fstF_new {hs : List (Bl × Hd)} {k : Nat} (hk : k < hs.length) (h : ¬ bAt (hs.map Prod.fst) hs[k].1.dg < k) (s : List UInt8) : fstF hs (k + 1) s = if s = hs[k].1.dg then some (bVal hs[k]) else fstF hs k s := by
  have e0 : bAt (hs.map Prod.fst) hs[k].1.dg = k := by have := bAt_self hk; omega
  unfold fstF
  by_cases hs' : s = hs[k].1.dg
  · rw [if_pos hs', hs', e0, if_pos (by omega), List.getElem?_eq_getElem hk]; rfl
  · rw [if_neg hs']
    by_cases q : bAt (hs.map Prod.fst) s < k
    · rw [if_pos q, if_pos (by omega)]
    · rw [if_neg q]
      split
      · rename_i q2
        exfalso
        have e : bAt (hs.map Prod.fst) s = k := by omega
        have h1 := bAt_there (l := hs.map Prod.fst) (d := s) (by rw [e]; simpa using hk)
        have h2 : (hs.map Prod.fst)[bAt (hs.map Prod.fst) s]'(by rw [e]; simpa using hk) = hs[k].1 := by
          rw [← dg_at hk]; congr 1
        rw [h2] at h1
        exact hs' h1.symm
      · rfl
theorem fstF_have {hs : List (Bl × Hd)} {k : Nat} (hk : k ≤ hs.length) {s : List UInt8} (h : bAt (hs.map Prod.fst) s < k) : ∃ x ∈ hs, fstF hs k s = some (bVal x) := by
  have hl : bAt (hs.map Prod.fst) s < hs.length := by omega
  refine ⟨hs[bAt (hs.map Prod.fst) s], List.getElem_mem hl, ?_⟩
  unfold fstF
  rw [if_pos h, List.getElem?_eq_getElem hl]; rfl
theorem fstF_none {hs : List (Bl × Hd)} {k : Nat} {s : List UInt8} (h : ¬ bAt (hs.map Prod.fst) s < k) : fstF hs k s = none := by
  unfold fstF; rw [if_neg h]
/-- the four cells of blob k -/
theorem blob_cells {w : World} {A : Option Addr} {n c : Nat} {hs : List (Bl × Hd)} (hr : Rd w 4 A n c (kBl.all hs)) {k : Nat} (hk : k < hs.length) :
    ∃ b off, A = some ⟨b, off, none⟩ ∧ w.cell? ⟨b, off + k * 4, none⟩ = some (.string (str hs[k].1.dg)) ∧ w.cell? ⟨b, off + k * 4 + 1, none⟩ = some (.slice hs[k].2.A hs[k].2.n hs[k].2.c) ∧ w.cell? ⟨b, off + k * 4 + 2, none⟩ = some (.int .i64 hs[k].1.pn) ∧ w.cell? ⟨b, off + k * 4 + 3, none⟩ = some (.bool hs[k].1.mr) := by
  obtain ⟨b, off, rfl, hc⟩ := hr.2.2.2 (by rw [Kin.all_length]; exact Nat.mul_pos (by omega) kBl.pos)
  have h : ∀ j v, j < 4 → (kBl.cells hs[k].1 hs[k].2)[j]? = some v → w.cell? ⟨b, off + k * 4 + j, none⟩ = some v := fun j v hj hv => by
    rw [Nat.add_assoc]
    exact hc _ _ ((Kin.all_at (K := kBl) hs k hk j hj).trans hv)
  exact ⟨b, off, rfl, h 0 _ (by omega) rfl, h 1 _ (by omega) rfl, h 2 _ (by omega) rfl, h 3 _ (by omega) rfl⟩
set_option maxRecDepth 100000 in
set_option maxHeartbeats 2000000 in
theorem rfirst_any (A : Option Addr) (n c : Nat) (hs : List (Bl × Hd)) (w : World) (hr : Rd w 4 A n c (kBl.all hs)) (hd : ∀ x ∈ hs, kBl.deep w x.1 x.2) (hg : ∀ x ∈ hs, x.1.dg.length ≤ maxLen) (hz : n * 56 ≤ 140737488351232) :
    Calls Tryz.prog 59 #[.slice A n c] w fun e w' => ∃ b, e = .returned (.map (some b)) ∧ w.heap.size ≤ b ∧ MapF w' b hs.length (fstF hs hs.length) ∧ Below w.heap.size w w' := by
  have hK : KRd kBl w A n c (hs.map Prod.fst) := ⟨hs, rfl, hr, hd⟩
  have hnl : n = hs.length := by have := hK.len; simpa using this
  subst hnl
  have hmk := run_makeMapN Tryz.underlying86 hs.length
  go_enter Tryz.func59, Tryz.ntmps59
  go_wp2
  go_loopw [5, 6, 7, 13] (fun _ _ _ i wr => ∃ k : Nat, k ≤ hs.length ∧ i = .int .i64 k ∧ MapF wr w.heap.size k (fstF hs k) ∧ Below w.heap.size w wr) (fun _ _ _ i _ => hs.length - (intOf i).toNat)
  case atStart => exact ⟨0, Nat.zero_le _, rfl, (MapF.made w).congr fun s => (fstF_zero hs s).symm, (Below.refl _ _).alloc (Nat.le_refl _) _⟩
  case round =>
    obtain ⟨k, hk, rfl, hm, hbel⟩ := hrel
    by_cases hlt : k < hs.length
    · obtain ⟨b2, off, rfl, c0, c1', c2, c3⟩ := blob_cells (hr.below hbel) hlt
      have hki : (k : Int) < (hs.length : Int) := by omega
      have hgk := hg _ (List.getElem_mem hlt)
      have hkm : k < maxLen := by unfold maxLen; omega
      have hnk := MapF.alloc hm (.cells #[.string (str hs[k].1.dg), .slice hs[k].2.A hs[k].2.n hs[k].2.c, .int .i64 hs[k].1.pn, .bool hs[k].1.mr] 45)
      have hal := (Below.refl wr.heap.size wr).alloc (Nat.le_refl _) (.cells #[.string (str hs[k].1.dg), .slice hs[k].2.A hs[k].2.n hs[k].2.c, .int .i64 hs[k].1.pn, .bool hs[k].1.mr] 45)
      have hbk := Blk.new wr 45 [.string (str hs[k].1.dg), .slice hs[k].2.A hs[k].2.n hs[k].2.c, .int .i64 hs[k].1.pn, .bool hs[k].1.mr]
      have hlook := hnk.look_ok Tryz.underlying86 (Tryz.zeroValue45 _) hgk
      by_cases hq : bAt (hs.map Prod.fst) hs[k].1.dg < k
      · obtain ⟨x, hx, hfx⟩ := fstF_have (Nat.le_of_lt hlt) hq
        have hnext := hnk.congr fun s => (fstF_old hlt hq s).symm
        rw [hfx] at hlook
        simp only [Option.getD_some, Option.isSome_some, bVal] at hlook
        have hn2 := (hnext.mono (Nat.le_succ k)).alloc (.cells #[.string (str x.1.dg), .slice x.2.A x.2.n x.2.c, .int .i64 x.1.pn, .bool x.1.mr] 45)
        have hb2 := (below_step hbel hal).alloc (by have := hbel.size; have := hal.size; omega) (.cells #[.string (str x.1.dg), .slice x.2.A x.2.n x.2.c, .int .i64 x.1.pn, .bool x.1.mr] 45)
        have HN2 := Lib.hid hn2
        have HB2 := Lib.hid hb2
        have e0 := hbk.cell 0
        simp only [List.getElem?_cons_zero] at e0
        clear hn2 hb2 hnext hnk hm hq hfx hbk hal hbel hx
        obtain ⟨⟨xd, xt, xp, xm⟩, ⟨xA, xn, xc⟩⟩ := x
        generalize hs[k] = y at *
        obtain ⟨⟨yd, yt, yp, ym⟩, ⟨yA, yn, yc⟩⟩ := y
        simp only at *
        go_wp2
        go_roundw
        case rel => exact ⟨k + 1, by omega, by go_num, HN2.out, HB2.out⟩
        case measure => simp [intOf] <;> omega
      · have hfx := fstF_none hq
        rw [hfx] at hlook
        simp only [Option.getD_none, Option.isSome_none] at hlook
        have hz3 := (below_step hbel hal).alloc (by have := hbel.size; have := hal.size; omega) (.cells #[.string ⟨#[]⟩, .slice none 0 0, .int .i64 0, .bool false] 45)
        have hn3 := hnk.alloc (.cells #[.string ⟨#[]⟩, .slice none 0 0, .int .i64 0, .bool false] 45)
        have hbk3 := hbk.alloc (.cells #[.string ⟨#[]⟩, .slice none 0 0, .int .i64 0, .bool false] 45)
        obtain ⟨w3, hupd, hm3, hg3⟩ := hn3.update Tryz.underlying86 hkm hgk (bVal hs[k])
        have hn4 := hm3.congr fun s => (fstF_new hlt hq s).symm
        have HN4 := Lib.hid hn4
        have HB4 := Lib.hid (hz3.grown hg3 (by have := hz3.size; omega) (fun j e => by injection e with e; omega))
        have e0 := hbk.cell 0
        have f0 := hbk3.cell 0
        have f1 := hbk3.cell 1
        have f2 := hbk3.cell 2
        have f3 := hbk3.cell 3
        simp only [List.getElem?_cons_succ, List.getElem?_cons_zero, bVal] at e0 f0 f1 f2 f3 hupd
        clear hn4 hm3 hg3 hz3 hn3 hbk3 hnk hm hq hfx hbk hal hbel
        generalize hs[k] = y at *
        obtain ⟨⟨yd, yt, yp, ym⟩, ⟨yA, yn, yc⟩⟩ := y
        simp only at *
        go_wp2
        go_roundw
        case rel => exact ⟨k + 1, by omega, by go_num, HN4.out, HB4.out⟩
        case measure => simp [intOf] <;> omega
    · have hd2 : decide ((k : Int) < (hs.length : Int)) = false := by simp; omega
      have hkl : k = hs.length := by omega
      rw [hkl] at hm
      have HM := Lib.hid hm
      clear hm hkl hk
      go_wp2
      go_ret
      exact ⟨_, rfl, Nat.le_refl _, HM.out, hbel⟩
end Go.Proofs.YtdbdigcpibmgjaaGreatDoor
/- Texts sorted and made single are the texts in their order; what two roots come to: plain facts. Nothing of the program. -/
namespace Go.Proofs.YtdbdigcpibmgjaaGreatDoor
open Go.RowKit
/-- texts in their order, some perhaps more than once -/
def SrU (l : List (List UInt8)) : Prop := l.Pairwise fun a b => Op.bytesLess b a = false
theorem getT (l : List (List UInt8)) {j : Nat} (h : j < l.length) : l.toArray[j]! = l[j] := by
  rw [getElem!_pos l.toArray j (by simpa using h)]; simp
theorem compact_upto {l : List (List UInt8)} (hs : SrU l) : ∀ m, m ≤ l.length → SrT (Lib.compactUpTo l.toArray m) ∧ (∀ x, x ∈ Lib.compactUpTo l.toArray m ↔ ∃ j, ∃ h : j < l.length, j < m ∧ l[j] = x)
  | 0, _ => ⟨List.Pairwise.nil, fun x => ⟨fun h => by simp [Lib.compactUpTo] at h, fun ⟨_, _, h, _⟩ => absurd h (by omega)⟩⟩
  | m + 1, hm => by
    obtain ⟨h1, h2⟩ := compact_upto hs m (by omega)
    have hml : m < l.length := by omega
    rw [Lib.compactUpTo_succ]
    by_cases hk : Lib.keeps l.toArray m = true
    · rw [if_pos hk, getT l hml]
      have hnew : ∀ j (h : j < l.length), j < m → Op.bytesLess l[j] l[m] = true := by
        intro j hj hjm
        have hm0 : m ≠ 0 := by omega
        have hne : l[m] ≠ l[m - 1] := by
          unfold Lib.keeps at hk
          rw [decide_eq_true_iff] at hk
          rcases hk with q | q
          · exact absurd q hm0
          · rw [getT l hml, getT l (by omega)] at q; exact q
        have hle : Op.bytesLess l[m] l[m - 1] = false := List.pairwise_iff_getElem.1 hs (m - 1) m (by omega) hml (by omega)
        have hlt : Op.bytesLess l[m - 1] l[m] = true := by
          rcases bl_cases l[m - 1] l[m] with q | q | q
          · exact q
          · exact absurd q.symm hne
          · rw [q] at hle; cases hle
        rcases Nat.lt_or_eq_of_le (show j ≤ m - 1 by omega) with q | q
        · have hj1 : Op.bytesLess l[m - 1] l[j] = false := List.pairwise_iff_getElem.1 hs j (m - 1) hj (by omega) q
          rcases bl_cases l[j] l[m - 1] with r | r | r
          · exact bl_trans r hlt
          · rw [r]; exact hlt
          · rw [r] at hj1; cases hj1
        · subst q; exact hlt
      refine ⟨List.pairwise_append.2 ⟨h1, List.pairwise_singleton .., fun a ha b hb => ?_⟩, fun x => ?_⟩
      · rw [List.mem_singleton] at hb
        subst hb
        obtain ⟨j, hj, hjm, rfl⟩ := (h2 a).1 ha
        exact hnew j hj hjm
      · rw [List.mem_append, h2, List.mem_singleton]
        constructor
        · rintro (⟨j, hj, hjm, rfl⟩ | rfl)
          · exact ⟨j, hj, by omega, rfl⟩
          · exact ⟨m, hml, by omega, rfl⟩
        · rintro ⟨j, hj, hjm, rfl⟩
          rcases Nat.lt_or_eq_of_le (Nat.le_of_lt_succ hjm) with q | q
          · exact .inl ⟨j, hj, q, rfl⟩
          · subst q; exact .inr rfl
    · rw [if_neg hk, List.append_nil]
      refine ⟨h1, fun x => ?_⟩
      rw [h2]
      constructor
      · rintro ⟨j, hj, hjm, rfl⟩
        exact ⟨j, hj, by omega, rfl⟩
      · rintro ⟨j, hj, hjm, rfl⟩
        rcases Nat.lt_or_eq_of_le (Nat.le_of_lt_succ hjm) with q | q
        · exact ⟨j, hj, q, rfl⟩
        · subst q
          unfold Lib.keeps at hk
          rw [decide_eq_true_iff] at hk
          have h0 : j ≠ 0 := fun e => hk (.inl e)
          have he : l[j] = l[j - 1] := Classical.byContradiction fun q => hk (.inr (by rw [getT l hml, getT l (by omega)]; exact q))
          exact ⟨j - 1, by omega, by omega, he.symm⟩
theorem compact_ris {l m : List (List UInt8)} (hs : SrU l) (hm : ∀ x, x ∈ l ↔ x ∈ m) : Lib.compact l = ris m := by
  obtain ⟨h1, h2⟩ := compact_upto hs l.length (Nat.le_refl _)
  refine (ris_of h1 fun x => ?_).symm
  rw [← hm]
  show x ∈ l ↔ x ∈ Lib.compactUpTo l.toArray l.length
  rw [h2, List.mem_iff_getElem]
  constructor
  · rintro ⟨j, hj, rfl⟩; exact ⟨j, hj, hj, rfl⟩
  · rintro ⟨j, hj, _, rfl⟩; exact ⟨j, hj, rfl⟩
/-- sorted as the library sorts -/
theorem merge_srU (l : List (List UInt8)) : SrU (l.mergeSort fun x y => decide (x ≤ y)) := by
  have h := List.pairwise_mergeSort (le := fun x y : List UInt8 => decide (x ≤ y))
    (fun a b c h1 h2 => by simp only [decide_eq_true_eq] at *; exact List.le_trans h1 h2)
    (fun a b => by simp only [Bool.or_eq_true, decide_eq_true_eq]; exact List.le_total a b) l
  refine h.imp fun {a b} hab => ?_
  rw [Go.Proofs.bytesLess_eq, decide_eq_false_iff_not]
  simpa using hab
theorem merge_mem (l : List (List UInt8)) (x : List UInt8) : x ∈ (l.mergeSort fun x y => decide (x ≤ y)) ↔ x ∈ l := List.mem_mergeSort
/-- what two texts come to is what the one comes to and what the other comes to -/
theorem rch_two {l : List Bl} {P : Bl → List (List UInt8)} {a b x : List UInt8} : Rch l P [a, b] x ↔ Rch l P [a] x ∨ Rch l P [b] x := by
  constructor
  · intro h
    induction h with
    | here hd hl =>
      rcases List.mem_cons.1 hd with q | q
      · exact .inl (.here (by rw [q]; exact List.mem_singleton.2 rfl) hl)
      · exact .inr (.here q hl)
    | next _ he hl ih =>
      rcases ih with q | q
      · exact .inl (.next q he hl)
      · exact .inr (.next q he hl)
  · rintro (h | h)
    · induction h with
      | here hd hl => exact .here (List.mem_cons.2 (.inl (List.mem_singleton.1 hd))) hl
      | next _ he hl ih => exact .next ih he hl
    · induction h with
      | here hd hl => exact .here (List.mem_cons_of_mem _ hd) hl
      | next _ he hl ih => exact .next ih he hl
theorem grows (l : List Bl) (P : Bl → List (List UInt8)) (a b : List UInt8) :
    Lib.compact ((ris (rFrom l P [a]) ++ ris (rFrom l P [b])).mergeSort fun x y => decide (x ≤ y)) = ris (rFrom l P [a, b]) := by
  refine compact_ris (merge_srU _) fun x => ?_
  rw [merge_mem, List.mem_append, ris_mem, ris_mem, rFrom_rch, rFrom_rch, rFrom_rch, rch_two]
end Go.Proofs.YtdbdigcpibmgjaaGreatDoor
/- Package reach: inOrder. -/
namespace Go.Proofs.YtdbdigcpibmgjaaGreatDoor
open Go.RowKit Go.Maps Go.Sort Go.Shelf
theorem srU_srT : ∀ {l : List (List UInt8)}, SrU l → l.Nodup → SrT l
  | [], _, _ => List.Pairwise.nil
  | a :: r, h, hn => by
    obtain ⟨h1, h2⟩ := List.pairwise_cons.1 h
    obtain ⟨n1, n2⟩ := List.nodup_cons.1 hn
    refine List.pairwise_cons.2 ⟨fun x hx => ?_, srU_srT h2 n2⟩
    rcases bl_cases a x with q | q | q
    · exact q
    · exact absurd (q ▸ hx) n1
    · rw [h1 x hx] at q; cases q
/-- slices.Sort's two contracts, at the fence that asks nothing -/
theorem sortsT (m : Nat) : AnyZ.SortsIn Tryz.prog Tryz.lay_Sorted_ren Fence.wide m :=
  ⟨fun blk off cap ss W hH hblk hsz => callsIn_wide.2 (AnyM.slices_Sort_string Tryz.lay_Sort blk off cap ss W hH hblk hsz),
   fun p cap W => callsIn_wide.2 (AnyM.slices_Sort_string_none Tryz.lay_Sort p cap W)⟩
/-- the keys, sorted, are the texts in their order that are keys -/
theorem sorted_keys {ss ks m : List (List UInt8)} (hp : ss.Perm ks) (hnd : ks.Nodup) (hs : SrT m) (hm : ∀ s, s ∈ m ↔ s ∈ ks) : (ss.mergeSort fun x y => decide (x ≤ y)) = m := by
  refine SrT.ext (srU_srT (merge_srU ss) ?_) hs fun x => ?_
  · exact ((List.mergeSort_perm ss _).trans hp).nodup_iff.2 hnd
  · rw [merge_mem, hp.mem_iff, hm]
set_option maxRecDepth 100000 in
set_option maxHeartbeats 1000000 in
theorem rinOrder_any (b n : Nat) (f : List UInt8 → Option Value) (w : World) (h : MapF w b n f) (hn : n * 16 ≤ 140737488355328) (m : List (List UInt8)) (hs : SrT m) (hm : ∀ s, s ∈ m ↔ (f s).isSome = true) :
    Calls Tryz.prog 60 #[.map (some b)] w (GivesTx m w) := by
  obtain ⟨D0, hown, hsz, hnd, hk⟩ := h.keys
  have hmax : Maps.size D0 ≤ maxLen := by unfold maxLen; omega
  have hbytes : Maps.size D0 * 16 ≤ 140737488355328 := by omega
  refine (callsIn_wide (n := 6)).1 ?_
  have hbl := hown.lt
  have hseq : SeqGives Fence.wide 2 Tryz.prog 144 #[.pointer (some ⟨w.heap.size, 0, none⟩)] encStr (fun ss => ss.Perm (strKeys D0)) (Maps.size D0) (w.alloc (.cells #[.map (some b)] 84)) :=
    AnyZ.keys_gives (ρ := Tryz.lay_Keys_bool_ren) { Tryz.lay_Keys_bool with } Fence.wide _ trivial rfl (by omega) w.heap.size b n D0 _ (by simp) (by simp) (by
      obtain ⟨es, clock, hb, Ft, hs, hD⟩ := hown
      exact ⟨es, clock, (Below.heap_alloc _ _ b hbl).trans hb, Ft, hs, hD⟩)
  have cK : ∀ mb W, CallsIn Fence.wide 5 Tryz.prog 97 #[.map mb] W fun e w' => e = .returned (.func (.func 144) #[] #[.pointer (some ⟨W.heap.size, 0, none⟩)]) ∧ w' = W.alloc (.cells #[.map mb] 84) := fun mb W => AnyZ.keys_in Tryz.lay_Keys_bool Fence.wide 5 trivial rfl mb W
  have cS := AnyZ.sorted_in Tryz.lay_Sorted Fence.wide 5 trivial trivial trivial trivial rfl (by omega) (sortsT _) (enters_of Tryz.func28 (by kernel_rfl) rfl) 144 #[.pointer (some ⟨w.heap.size, 0, none⟩)] trivial (enters_of Tryz.func144 (by kernel_rfl) rfl) _ _ hmax hbytes _ hseq
  change CallsIn _ _ Tryz.prog 96 _ _ _ at cS
  have hfK : Fence.wide.fn 97 := trivial
  have hfS : Fence.wide.fn 96 := trivial
  refine callsIn_of_wp Tryz.func60 rfl trivial ?_ rfl
  simp only [Tryz.ntmps60, List.size_toArray, List.length_cons, List.length_nil, Nat.reduceAdd, Nat.reduceSub, Array.replicate_succ, Array.replicate_zero, List.push_toArray, List.append_toArray, List.nil_append, List.cons_append]
  gi_wp2_with (first
    | (gi_at_call 97; refine (cK _ _).mono ?_; rintro e w' ⟨rfl, rfl⟩)
    | (gi_at_call 96; refine cS.mono ?_; rintro e w' ⟨v, ss, rfl, hS, hrow, hnil, hb⟩))
  go_ret
  have e1 : (ss.mergeSort fun x y => decide (x ≤ y)) = m := sorted_keys hS hnd hs fun s => by rw [hm, hk]
  have e2 : ss.length = m.length := by rw [← e1, List.length_mergeSort]
  rw [e1, e2] at hrow
  exact ⟨v, rfl, ownsRow_base_a hrow (by simp), ((Below.refl _ w).alloc (Nat.le_refl _) _).trans (hb.mono (by simp))⟩
end Go.Proofs.YtdbdigcpibmgjaaGreatDoor
/- What is met from some digests on, by a list of what is still to be looked at: plain facts. Nothing of the program. -/
namespace Go.Proofs.YtdbdigcpibmgjaaGreatDoor
open Go.RowKit
/-- M is met, T is still to be looked at -/
structure Dfs (l : List Bl) (P : Bl → List (List UInt8)) (ds M T : List (List UInt8)) : Prop where
  met : Met l M
  inM : ∀ d ∈ M, Rch l P ds d
  inT : ∀ d ∈ T, bAt l d < l.length → Rch l P ds d
  here : ∀ d ∈ ds, bAt l d < l.length → d ∈ M ∨ d ∈ T
  next : ∀ d ∈ M, ∀ e ∈ rPar l P d, bAt l e < l.length → e ∈ M ∨ e ∈ T
section
variable {l : List Bl} {P : Bl → List (List UInt8)} {ds M T : List (List UInt8)}
theorem Dfs.start (ds : List (List UInt8)) : Dfs l P ds [] ds :=
  ⟨Met.nil, fun _ h => (by cases h), fun _ h k => .here h k, fun _ h _ => .inr h, fun _ h => (by cases h)⟩
theorem mem_last {T : List (List UInt8)} {d x : List UInt8} (h : x ∈ T ++ [d]) : x ∈ T ∨ x = d := by simpa using h
/-- one that is not there, or is met, is left out -/
theorem Dfs.skip {d : List UInt8} (h : Dfs l P ds M (T ++ [d])) (hd : ¬ bAt l d < l.length ∨ d ∈ M) : Dfs l P ds M T := by
  have hk : ∀ x, bAt l x < l.length → x ∈ M ∨ x ∈ T ++ [d] → x ∈ M ∨ x ∈ T := by
    rintro x hx (q | q)
    · exact .inl q
    · rcases mem_last q with q | rfl
      · exact .inr q
      · rcases hd with q | q
        · exact absurd hx q
        · exact .inl q
  exact ⟨h.met, h.inM, fun x hx => h.inT x (List.mem_append_left _ hx), fun x hx hl => hk x hl (h.here x hx hl), fun x hx e he hl => hk e hl (h.next x hx e he hl)⟩
/-- one that is there is met, and its parts are to be looked at -/
theorem Dfs.take {d : List UInt8} (h : Dfs l P ds M (T ++ [d])) (hd : bAt l d < l.length) (hn : d ∉ M) : Dfs l P ds (M ++ [d]) (T ++ rPar l P d) := by
  have hr : Rch l P ds d := h.inT d (by simp) hd
  have hk : ∀ x, x ∈ M ∨ x ∈ T ++ [d] → x ∈ M ++ [d] ∨ x ∈ T ++ rPar l P d := by
    rintro x (q | q)
    · exact .inl (List.mem_append_left _ q)
    · rcases mem_last q with q | rfl
      · exact .inr (List.mem_append_left _ q)
      · exact .inl (by simp)
  refine ⟨⟨?_, ?_⟩, ?_, ?_, fun x hx hl => hk x (h.here x hx hl), ?_⟩
  · rw [List.nodup_append]
    exact ⟨h.met.nd, by simp, fun a ha b hb => by rw [List.mem_singleton] at hb; subst hb; exact fun q => hn (q ▸ ha)⟩
  · intro x hx
    rcases mem_last hx with q | rfl
    · exact h.met.inl x q
    · exact hd
  · intro x hx
    rcases mem_last hx with q | rfl
    · exact h.inM x q
    · exact hr
  · intro x hx hl
    rcases List.mem_append.1 hx with q | q
    · exact h.inT x (List.mem_append_left _ q) hl
    · exact .next hr q hl
  · intro x hx e he hl
    rcases mem_last hx with q | rfl
    · exact hk e (h.next x q e he hl)
    · exact .inr (List.mem_append_right _ he)
/-- when nothing is left to be looked at, what is met is all that is come to -/
theorem Dfs.done (h : Dfs l P ds M []) (d : List UInt8) : d ∈ M ↔ d ∈ rFrom l P ds := by
  rw [rFrom_rch]
  refine ⟨h.inM d, fun hr => ?_⟩
  induction hr with
  | here hd hl =>
    rcases h.here _ hd hl with q | q
    · exact q
    · cases q
  | next _ he hl ih =>
    rcases h.next _ ih _ he hl with q | q
    · exact q
    · cases q
theorem Dfs.len (h : Dfs l P ds M T) : M.length ≤ l.length := h.met.len
/-- the keys of what is met, in their order -/
theorem ris_rFrom {m : List (List UInt8)} (h : Dfs l P ds M []) (hs : SrT m) (hm : ∀ x, x ∈ m ↔ x ∈ M) : m = ris (rFrom l P ds) :=
  (ris_of hs fun x => by rw [hm, h.done]).symm
end
end Go.Proofs.YtdbdigcpibmgjaaGreatDoor
/- slices.Clone of texts. -/
namespace Go.Proofs.YtdbdigcpibmgjaaGreatDoor
open Go.RowKit
set_option maxRecDepth 100000 in
set_option maxHeartbeats 400000 in
theorem tclone_any (A : Option Addr) (n c : Nat) (l : List (List UInt8)) (w : World) (hr : Rd w 1 A n c (l.map sv)) (hA : A = none → c = 0) (hz : n * 16 ≤ 140737488351232) :
    Calls Tryz.prog 37 #[.slice A n c] w (GivesTx l w) := by
  obtain ⟨i0, hi0, hz0, hz1, hz2⟩ := info_parts str_info
  obtain rfl := hr.tlen
  rcases A with _ | a
  · have hc0 := hA rfl
    subst hc0
    have hl : l = [] := List.eq_nil_of_length_eq_zero (by have := hr.2.1; omega)
    subst hl
    have he : ∀ w : World, (binOp .eql 26 (.slice none 0 0) (.slice none 0 0)).run Tryz.prog w = .ok (.bool true) w := fun _ => rfl
    go_enter Tryz.func37, Tryz.ntmps37
    go_wp2
    go_ret
    exact ⟨_, rfl, World.ownsRow_nil _ _ _ _, Below.refl _ _⟩
  · have hown : (w.alloc (.cells #[] 9)).ownsRow w.heap.size 9 1 (.slice (some ⟨w.heap.size, 0, none⟩) 0 0) 0 [] :=
      ⟨rfl, .inr ⟨w.heap.size, 0, #[], rfl, Nat.le_refl _, heap_alloc_new w _, Nat.le_refl _, by simp [maxLen], rfl, rfl⟩⟩
    have hb0 := (Below.refl w.heap.size w).alloc (Nat.le_refl _) (.cells #[] 9)
    have hr1 := hr.below hb0
    have he : ∀ w : World, (binOp .eql 26 (.slice (some a) l.length c) (.slice none 0 0)).run Tryz.prog w = .ok (.bool false) w := fun _ => rfl
    go_enter Tryz.func37, Tryz.ntmps37
    go_wp2_with (at_builtin; refine wpList_appendR rfl (.tmp 5) (.tmp 6) _ rfl Tryz.underlying26 hi0 hz0 hz1 hz2 rfl (by omega) _ 0 [] rfl hown hr1 (fun q => by (cases q)) (sv_one l) rfl (by omega) (by unfold maxLen; omega) hb0.size ?_; rintro v1 w1 ⟨hown1, hb1⟩; rw [Nat.zero_add, List.nil_append] at hown1)
    go_ret
    exact ⟨_, rfl, hown1, hb0.trans hb1⟩
end Go.Proofs.YtdbdigcpibmgjaaGreatDoor
/- Package reach: Parts. -/
namespace Go.Proofs.YtdbdigcpibmgjaaGreatDoor
open Go.RowKit
set_option maxRecDepth 100000 in
set_option maxHeartbeats 1000000 in
theorem rparts_any (b : Bl) (D : Option Addr) (m d : Nat) (w : World) (hr : Rd w 1 D m d (b.dt.map bv8)) :
    Calls Tryz.prog 39 #[.agg #[.string (str b.dg), .slice D m d, .int .i64 b.pn, .bool b.mr]] w (GivesTx (pOf b) w) := by
  obtain ⟨i0, hi0, hz0, hz1, hz2⟩ := info_parts str_info
  have hp := fun W hW => mdecode_of D m d b.dt W (hr.below (w' := W) hW)
  have hl8 := dec_len b.dt
  have hpi : pOf b = (dec b.dt).2.map Prt.dg := rfl
  have hno := dec_no (b := b.dt)
  rw [hpi]
  clear hpi
  obtain ⟨er, ps, hE⟩ : ∃ er ps, dec b.dt = (er, ps) := ⟨_, _, rfl⟩
  rw [hE] at hp hl8 hno ⊢
  have HP := Lib.hid hp
  have HN := Lib.hid hno
  clear hp hE hno
  have hl8' : ps.length ≤ 8 := hl8
  have hal := (Below.refl w.heap.size w).alloc (Nat.le_refl _) (.cells #[.string (str b.dg), .slice D m d, .int .i64 b.pn, .bool b.mr] 45)
  have e1 := (Blk.new w 45 [.string (str b.dg), .slice D m d, .int .i64 b.pn, .bool b.mr]).cell 1
  simp only [List.getElem?_cons_succ, List.getElem?_cons_zero] at e1
  obtain ⟨dg, dt, pn, mr⟩ := b
  go_enter Tryz.func39, Tryz.ntmps39
  go_wp2_with fail
  with_reducible refine (HP.out _ hal).mono ?_
  rintro e w1 ⟨A1, n1, c1, rfl, hr1, hA1, hb1⟩
  have hbA := below_step hal hb1
  clear hal hb1 e1 HP hr
  by_cases he : er = 0
  · have d1 : (er != 0) = false := by rw [bne_eq_false_iff_eq]; exact he
    obtain rfl : n1 = ps.length := hr1.plen
    have hmk := run_make1 (P := Tryz.prog) Tryz.underlying26 hi0 hz0 hz1 rfl hz2 (ps.length : Int) ps.length rfl (by omega) (by omega)
    have hlen : ((ps.map Prt.dg).map sv).length = ps.length := by rw [List.length_map, List.length_map]
    clear he hl8
    go_wp2
    go_loopw [6, 7, 21] (fun _ _ i wr => ∃ k : Nat, k ≤ ps.length ∧ i = .int .i64 k ∧ Blk wr w1.heap.size 9 (((ps.map Prt.dg).map sv).take k ++ reps (ps.length - k) (.string ByteArray.empty)) ∧ Below w1.heap.size w1 wr) (fun _ _ i _ => ps.length - (intOf i).toNat)
    case atStart => exact ⟨0, Nat.zero_le _, rfl, by simpa using Blk.new w1 _ _, (Below.refl _ _).alloc (Nat.le_refl _) _⟩
    case round =>
      obtain ⟨k, hk, rfl, hblk, hbel⟩ := hrel
      by_cases hlt : k < ps.length
      · obtain ⟨b2, off, rfl, c0, c1', c2⟩ := (hr1.below hbel).part hlt
        have hki : (k : Int) < (ps.length : Int) := by omega
        have hv : ((ps.map Prt.dg).map sv)[k]? = some (.string (str ps[k].dg)) := by rw [List.getElem?_map, List.getElem?_map, List.getElem?_eq_getElem hlt]; rfl
        have hst := fill_step (z := Value.string ByteArray.empty) hlt hv
        have HST := Lib.hid hst
        have hat := fill_at (ys := (ps.map Prt.dg).map sv) (z := Value.string ByteArray.empty) hlt (by rw [hlen]; exact hlt)
        clear hst hv
        generalize ps[k] = q at *
        have hal := (Below.refl wr.heap.size wr).alloc (Nat.le_refl _) (.cells #[.string (str q.nm), .string (str q.dg), .int .i64 q.sz] 97)
        have e1 := (Blk.new wr 97 [.string (str q.nm), .string (str q.dg), .int .i64 q.sz]).cell 1
        simp only [List.getElem?_cons_succ, List.getElem?_cons_zero] at e1
        have hblk2 := hblk.alloc (.cells #[.string (str q.nm), .string (str q.dg), .int .i64 q.sz] 97)
        have hcl := hblk2.cell k
        rw [hat] at hcl
        have hfr := hblk2.frozen k
        have hset := hblk2.put k (.string (str q.dg))
        rw [HST.out] at hset
        have HSET := Lib.hid hset
        have hb2 := (below_step hbel hal).setCell (p := ⟨w1.heap.size, k, none⟩) (Nat.le_refl _) (.string (str q.dg))
        have HB2 := Lib.hid hb2
        clear hset hb2 hat HST hblk hblk2 hbel hal
        go_wp2
        go_roundw
        case rel => exact ⟨k + 1, by omega, by go_num, HSET.out, HB2.out⟩
        case measure => simp [intOf] <;> omega
      · have hd2 : decide ((k : Int) < (ps.length : Int)) = false := by simp; omega
        have hkl : k = ps.length := by omega
        subst hkl
        rw [fill_end hlen] at hblk
        have ho : wr.ownsRow w.heap.size 9 1 (.slice (some ⟨w1.heap.size, 0, none⟩) ps.length ps.length) (ps.map Prt.dg).length ((ps.map Prt.dg).map sv) := by
          refine ⟨by rw [List.length_map, Nat.mul_one], .inr ⟨_, ps.length, _, by rw [List.length_map], hbA.size, hblk, by rw [List.length_map]; exact Nat.le_refl _, by unfold maxLen; omega, ?_, ?_⟩⟩
          · simp
          · rw [List.toList_toArray]
            exact List.take_of_length_le (by simp)
        have HO := Lib.hid ho
        have HB := Lib.hid (below_step hbA hbel)
        clear ho hblk
        go_wp2
        go_ret
        exact ⟨_, rfl, HO.out, HB.out⟩
  · have d1 : (er != 0) = true := by rw [bne_iff_ne]; exact he
    have hps : ps = [] := HN.out he
    subst hps
    go_wp2
    go_ret
    exact ⟨_, rfl, World.ownsRow_nil _ _ _ _, hbA⟩
end Go.Proofs.YtdbdigcpibmgjaaGreatDoor
/- Package reach: From. -/
namespace Go.Proofs.YtdbdigcpibmgjaaGreatDoor
open Go.RowKit
/-- what is met, as a map -/
def metF (M : List (List UInt8)) (s : List UInt8) : Option Value := if s ∈ M then some (.bool true) else none
theorem metF_some {M : List (List UInt8)} {s : List UInt8} : (metF M s).isSome = true ↔ s ∈ M := by
  unfold metF; split <;> simp_all
theorem metF_in {M : List (List UInt8)} {s : List UInt8} (h : s ∈ M) : metF M s = some (.bool true) := by unfold metF; rw [if_pos h]
theorem metF_out {M : List (List UInt8)} {s : List UInt8} (h : s ∉ M) : metF M s = none := by unfold metF; rw [if_neg h]
theorem metF_add (M : List (List UInt8)) (d s : List UInt8) : (if s = d then some (.bool true) else metF M s) = metF (M ++ [d]) s := by
  unfold metF
  by_cases h : s = d
  · rw [if_pos h, if_pos (by simp [h])]
  · rw [if_neg h]
    by_cases q : s ∈ M
    · rw [if_pos q, if_pos (List.mem_append_left _ q)]
    · rw [if_neg q, if_neg (by simp [h, q])]
/-- how many entries a map has -/
def mSize (w : World) (b : Nat) : Nat := match w.heap[b]? with | some (.map es _) => es.size | _ => 0
theorem MapF.size {w : World} {b n : Nat} {f : List UInt8 → Option Value} (h : MapF w b n f) {M : List (List UInt8)} (hn : M.Nodup) (hm : ∀ s, (f s).isSome = true ↔ s ∈ M) : mSize w b = M.length := by
  obtain ⟨D, ho, _, hnd, hk⟩ := h.keys
  have hlen : (strKeys D).length = M.length := ((List.perm_ext_iff_of_nodup hnd hn).2 fun s => by rw [hk, hm]).length_eq
  obtain ⟨es, clock, hb, F, hsz, hD⟩ := ho
  have h1 : (strKeys D).length = es.size := by
    rw [hD]
    show (List.map _ _).length = _
    rw [List.length_map, length_sorted]; simp
  unfold mSize
  rw [hb]
  show es.size = _
  omega
def slLen : Value → Nat
  | .slice _ n _ => n
  | _ => 0
theorem own_cut {w : World} {base : Nat} {e : TypeId} {A : Option Addr} {n c k : Nat} {xs : List Value} (h : w.ownsRow base e 1 (.slice A n c) n xs) (hk : k ≤ n) (h0 : 0 < n) : w.ownsRow base e 1 (.slice A k c) k (xs.take k) := by
  obtain ⟨h1, h2⟩ := h
  rcases h2 with ⟨_, q⟩ | ⟨g, cap, cur, hv, hB, hb, r1, r2, r3, r4⟩
  · omega
  · injection hv with e1 e2 e3
    refine ⟨by rw [List.length_take]; omega, .inr ⟨g, cap, cur, by rw [e1, e3], hB, hb, by omega, r2, r3, ?_⟩⟩
    rw [← r4, List.take_take, Nat.min_eq_left (by omega), Nat.mul_one]
/-- the digests of parts are texts -/
theorem rdTail_dg : ∀ (k : Nat) (acc : List Prt) (r : List UInt8), (∀ p ∈ acc, p.dg.length = 64) → ∀ p ∈ (rdTail k acc r).2, p.dg.length = 64
  | 0, acc, r, h => by
    rw [rdTail]
    split <;> (try split) <;> first | exact h | (intro p hp; cases hp)
  | k + 1, acc, r, h => by
    rw [rdTail_succ]
    split
    · intro p hp; cases hp
    · split
      · intro p hp; cases hp
      · split
        · intro p hp; cases hp
        · rename_i h2 _
          refine rdTail_dg k _ _ fun p hp => ?_
          rcases List.mem_append.1 hp with q | q
          · exact h p q
          · rw [List.mem_singleton] at q
            subst q
            show (hexT ((tRest r).take 32)).length = 64
            rw [hexT_length, List.length_take]; omega
theorem pIn_dg (b : List UInt8) : ∀ d ∈ pIn b, d.length ≤ maxLen := by
  intro d hd
  obtain ⟨p, hp, rfl⟩ := List.mem_map.1 hd
  have : p.dg.length = 64 := by
    unfold dec at hp
    split at hp
    · cases hp
    · split at hp
      · cases hp
      · split at hp
        · cases hp
        · split at hp
          · cases hp
          · exact rdTail_dg _ _ _ (fun _ h => by cases h) p hp
  unfold maxLen; omega
theorem fstF_par {hs : List (Bl × Hd)} {d : List UInt8} (h : bAt (hs.map Prod.fst) d < hs.length) (P : Bl → List (List UInt8)) : ∃ x ∈ hs, fstF hs hs.length d = some (bVal x) ∧ rPar (hs.map Prod.fst) P d = P x.1 := by
  refine ⟨hs[bAt (hs.map Prod.fst) d], List.getElem_mem h, ?_, ?_⟩
  · rw [fstF_end, List.getElem?_eq_getElem h]; rfl
  · unfold rPar
    rw [getD_lt (by simpa using h), dg_at h]
theorem last_of {T : List (List UInt8)} (h : 0 < T.length) : ∃ T0 d, T = T0 ++ [d] := by
  refine ⟨T.dropLast, T.getLast (fun q => by subst q; exact absurd h (by simp)), ?_⟩
  rw [List.dropLast_concat_getLast]
set_option maxRecDepth 100000 in
set_option maxHeartbeats 4000000 in
theorem rfrom_hs (A : Option Addr) (n c : Nat) (hs : List (Bl × Hd)) (B : Option Addr) (m q : Nat) (ds : List (List UInt8)) (w : World) (hr : Rd w 4 A n c (kBl.all hs)) (hd : ∀ x ∈ hs, kBl.deep w x.1 x.2) (hg : ∀ x ∈ hs, x.1.dg.length ≤ maxLen)
    (hs2 : Rd w 1 B m q (ds.map sv)) (hB : B = none → q = 0) (hgd : ∀ d ∈ ds, d.length ≤ maxLen) (hz : n * 56 ≤ 140737488351232) (hroom : (ds.length + 8 * hs.length) * 16 ≤ 140737488351232) :
    Calls Tryz.prog 22 #[.slice A n c, .slice B m q] w (GivesTx (ris (rFrom (hs.map Prod.fst) pOf ds)) w) := by
  obtain ⟨i0, hi0, hz0, hz1, hz2⟩ := info_parts str_info
  have hK : KRd kBl w A n c (hs.map Prod.fst) := ⟨hs, rfl, hr, hd⟩
  obtain rfl := hs2.tlen
  have hF := Lib.hid (rfirst_any A n c hs w hr hd hg hz)
  have hmk := @run_makeMap Tryz.prog
  clear hr
  go_enter Tryz.func22, Tryz.ntmps22
  go_wp2_with fail
  with_reducible refine hF.out.mono ?_
  rintro e w1 ⟨b1, rfl, hb1w, hm1, hb1⟩
  have hm2 := MapF.made w1
  have hm1' := hm1.alloc (.map #[] 0)
  have hal := (Below.refl w1.heap.size w1).alloc (Nat.le_refl _) (.map #[] 0)
  have hbA := below_step hb1 hal
  have hcl := Lib.hid (tclone_any B ds.length q ds _ (hs2.below hbA) hB (by omega))
  go_wp2_with fail
  with_reducible refine hcl.out.mono ?_
  rintro e w2 ⟨v2, rfl, hown2, hb2⟩
  have hm1b := hm1'.below hb2
  have hm2b := (hm2.below hb2).congr (g := metF []) fun s => rfl
  have hsz0 := hb2.size
  simp only [World.size_alloc] at hsz0 hown2
  have hbB := below_step hbA hb2
  have hb1l : b1 < w1.heap.size := hm1.lt
  obtain ⟨bm, hbm⟩ : ∃ bm, w1.heap.size = bm := ⟨_, rfl⟩
  rw [hbm] at hm2b hsz0 hown2 hb1l
  have hwbm : w.heap.size ≤ bm := by omega
  clear hm1 hm2 hm1' hal hbA hcl hb2 hF hb1 hmk hs2
  go_wp2_with fail
  rename World => wo
  go_loopw [7, 8, 9, 10, 11] (fun v _ _ _ _ wr => ∃ M T : List (List UInt8), wr.ownsRow (bm + 1) 9 1 v T.length (T.map sv) ∧ MapF wr b1 hs.length (fstF hs hs.length) ∧ MapF wr bm M.length (metF M) ∧ Hid (Dfs (hs.map Prod.fst) pOf ds M T) ∧ T.length ≤ ds.length + 8 * M.length ∧ Hid (∀ t ∈ T, t.length ≤ maxLen) ∧ Below w.heap.size w wr ∧ bm + 1 ≤ wr.heap.size) (fun v _ _ _ _ wr => 9 * (hs.length - mSize wr bm) + slLen v)
  case atStart => exact ⟨[], ds, hown2, hm1b, hm2b, Dfs.start ds, by omega, hgd, hbB, by omega⟩
  case round =>
    clear hown2 hm1b hm2b hbB hsz0
    obtain ⟨M, T, hown, hf, hm, HD, hTl, HT, hbel, hsz⟩ := hrel
    have hMl : M.length ≤ hs.length := by have := HD.out.len; simpa using this
    have hms := hm.size HD.out.met.nd fun s => metF_some
    by_cases hT0 : 0 < T.length
    · obtain ⟨T0, d, rfl⟩ := last_of hT0
      have hdl : d.length ≤ maxLen := HT.out d (by simp)
      have HT' : Hid (∀ t ∈ T0, t.length ≤ maxLen) := fun t ht => HT.out t (List.mem_append_left _ ht)
      obtain ⟨K, hK⟩ : ∃ K, T0.length = K := ⟨_, rfl⟩
      have hlen : (T0 ++ [d]).length = K + 1 := by rw [List.length_append, List.length_singleton, hK]
      rw [hlen] at hown hTl
      obtain ⟨A7, c7, rfl, hr7, hA7, hF7⟩ := own_rdK hown
      have hcut := own_cut hown (Nat.le_succ K) (by omega)
      rw [List.map_append, List.take_left' (by rw [List.length_map, hK])] at hcut
      obtain ⟨b7, off7, rfl, hc7⟩ := hr7.text (k := K) (by rw [hlen]; omega)
      have hlast : (T0 ++ [d])[K]'(by rw [hlen]; omega) = d := by simp [← hK]
      rw [hlast] at hc7
      have hc1 := hr7.2.1
      have hc2 := hr7.2.2.1
      unfold maxLen at hc2
      have hKi : (0 : Int) < (K : Int) + 1 := by omega
      have hKc : (K : Int) ≤ (c7 : Int) := by omega
      have HK := Lib.hid hK
      have hl1 := hf.look_ok Tryz.underlying86 (Tryz.zeroValue45 _) hdl
      clear hK hlast hown hr7 hF7 hlen hT0 HT
      by_cases hq : bAt (hs.map Prod.fst) d < hs.length
      · obtain ⟨x, hx, hfx, hpx⟩ := fstF_par hq pOf
        have hdx := (hd x hx).1.below hbel
        have hgx := hg x hx
        rw [hfx] at hl1
        simp only [Option.getD_some, Option.isSome_some, bVal] at hl1
        have hf3 := hf.alloc (.cells #[.string (str x.1.dg), .slice x.2.A x.2.n x.2.c, .int .i64 x.1.pn, .bool x.1.mr] 45)
        have hm3 := hm.alloc (.cells #[.string (str x.1.dg), .slice x.2.A x.2.n x.2.c, .int .i64 x.1.pn, .bool x.1.mr] 45)
        have ho3 := own_alloc hcut (.cells #[.string (str x.1.dg), .slice x.2.A x.2.n x.2.c, .int .i64 x.1.pn, .bool x.1.mr] 45)
        have hb3 := hbel.alloc hbel.size (.cells #[.string (str x.1.dg), .slice x.2.A x.2.n x.2.c, .int .i64 x.1.pn, .bool x.1.mr] 45)
        have hk3 := Blk.new wr 45 [.string (str x.1.dg), .slice x.2.A x.2.n x.2.c, .int .i64 x.1.pn, .bool x.1.mr]
        have hl2 := hm3.look Tryz.underlying84 (Tryz.zeroValue4 _) hdl
        by_cases hin : d ∈ M
        · have HD' := Lib.hid (HD.out.skip (.inr hin))
          rw [metF_in hin] at hl2
          simp only [Option.getD_some] at hl2
          have hs3 := hm3.size HD.out.met.nd fun s => metF_some
          rw [← HK.out] at ho3
          have HO3 := Lib.hid ho3
          clear ho3 hcut hq HD hf hm hbel hdx hfx hpx hx hk3 hgx hin
          obtain ⟨⟨xd, xt, xp, xm⟩, ⟨xA, xn, xc⟩⟩ := x
          simp only at *
          go_wp2
          go_roundw
          case rel => exact ⟨M, T0, by rw [← HK.out]; exact HO3.out, hf3, hm3, HD'.out, by rw [HK.out]; omega, HT'.out, hb3, by simp; omega⟩
          case measure => rw [hs3, hms]; simp [slLen]
        · have HD' := Lib.hid (HD.out.take (by simpa using hq) hin)
          rw [hpx] at HD'
          have hM1 : M.length + 1 ≤ hs.length := by have := HD'.out.len; simpa using this
          rw [metF_out hin] at hl2
          simp only [Option.getD_none] at hl2
          have hMm : M.length < maxLen := by unfold maxLen; omega
          obtain ⟨w3, hupd, hm4, hg4⟩ := hm3.update Tryz.underlying84 hMm hdl (.bool true)
          have hm5 := hm4.congr fun s => metF_add M d s
          have hf5 := hf3.kept hg4 (by intro e; injection e with e; omega)
          have ho5 := World.ownsRow.kept ho3 hg4 (.inr fun e => by have := (ho3.lt _ e).1; omega)
          have hsz3 : bm + 1 ≤ (wr.alloc (.cells #[.string (str x.1.dg), .slice x.2.A x.2.n x.2.c, .int .i64 x.1.pn, .bool x.1.mr] 45)).heap.size := by simp; omega
          have hb5 := hb3.grown hg4 hb3.size (fun j e => by injection e with e; omega)
          have hk5 := hk3.grown hg4 (by intro e; injection e with e; omega)
          have hsz5 := Nat.le_trans hsz3 hg4.size
          have hpar := rparts_any x.1 x.2.A x.2.n x.2.c w3 ((hd x hx).1.below hb5)
          have hpl := pIn_len x.1.dt
          have HPD := Lib.hid (pIn_dg x.1.dt)
          have hpo : pOf x.1 = pIn x.1.dt := rfl
          rw [hpo] at hpar HD'
          clear hpo hpx hfx hdx hm4 hg4 hm3 hf3 ho3 hb3 hk3 hcut hsz3 hf hm hbel hgx hin hx hq HD
          obtain ⟨L, hL⟩ : ∃ L, pIn x.1.dt = L := ⟨_, rfl⟩
          rw [hL] at hpar HD' HPD hpl
          clear hL
          obtain ⟨⟨xd, xt, xp, xm⟩, ⟨xA, xn, xc⟩⟩ := x
          simp only at *
          have e0 := hk5.cell 0
          have e1 := hk5.cell 1
          have e2 := hk5.cell 2
          have e3 := hk5.cell 3
          simp only [List.getElem?_cons_succ, List.getElem?_cons_zero] at e0 e1 e2 e3
          have HPAR := Lib.hid hpar
          clear hpar hk5
          go_wp2_with fail
          with_reducible refine HPAR.out.mono ?_
          rintro e w4 h4
          obtain ⟨A4, c4, rfl, hr4, hA4, -, hb4⟩ := h4.rd
          have ho6 := own_below ho5 hb4
          have hf6 := hf5.below hb4
          have hm6 := hm5.below hb4
          have hb6 := below_step hb5 hb4
          have hsz6 := Nat.le_trans hsz5 hb4.size
          clear h4 ho5 hf5 hm5 hb5 hb4 HPAR
          go_wp2_with (at_builtin; refine wpList_appendR rfl (.tmp 45) (.tmp 47) _ rfl Tryz.underlying26 hi0 hz0 hz1 hz2 rfl (by omega) _ K (T0.map sv) rfl ho6 hr4 hA4 (sv_one _) rfl (by omega) (by unfold maxLen; omega) hsz6 ?_; rintro v7 w7 ⟨ho7, hb7⟩)
          have hf7 := hf6.belowB hb7 (by omega)
          have hm7 := hm6.belowB hb7 (by omega)
          have hb8 := hb6.trans (hb7.mono (by omega))
          have hs7 := hm7.size HD'.out.met.nd fun s => metF_some
          have hsz7 := Nat.le_trans hsz6 hb7.size
          rw [← List.map_append] at ho7
          have hlen2 : (T0 ++ L).length = K + L.length := by rw [List.length_append, HK.out]
          have HO7 := Lib.hid ho7
          have hsl : slLen v7 = K + L.length := by
            obtain ⟨A9, c9, q9⟩ := own_slice ho7
            rw [q9]; rfl
          have hlM : (M ++ [d]).length = M.length + 1 := by simp
          clear ho7 ho6 hr4 hA4
          go_roundw
          case rel => exact ⟨M ++ [d], T0 ++ L, by rw [hlen2]; exact HO7.out, hf7, by rw [hlM]; exact hm7, HD'.out, by rw [hlM, hlen2]; omega, fun t ht => by
            rcases List.mem_append.1 ht with q | q
            · exact HT'.out t q
            · exact HPD.out t q, hb8, hsz7⟩
          case measure => rw [hs7, hms, hsl, hlM]; simp only [slLen]; omega
      · have HD' := Lib.hid (HD.out.skip (.inl (by simpa using hq)))
        rw [fstF_none hq] at hl1
        simp only [Option.getD_none, Option.isSome_none] at hl1
        have hf3 := hf.alloc (.cells #[.string ⟨#[]⟩, .slice none 0 0, .int .i64 0, .bool false] 45)
        have hm3 := hm.alloc (.cells #[.string ⟨#[]⟩, .slice none 0 0, .int .i64 0, .bool false] 45)
        have ho3 := own_alloc hcut (.cells #[.string ⟨#[]⟩, .slice none 0 0, .int .i64 0, .bool false] 45)
        have hb3 := hbel.alloc hbel.size (.cells #[.string ⟨#[]⟩, .slice none 0 0, .int .i64 0, .bool false] 45)
        have hs3 := hm3.size HD.out.met.nd fun s => metF_some
        rw [← HK.out] at ho3
        have HO3 := Lib.hid ho3
        clear ho3 hcut hq HD hf hm hbel
        go_wp2
        go_roundw
        case rel => exact ⟨M, T0, by rw [← HK.out]; exact HO3.out, hf3, hm3, HD'.out, by rw [HK.out]; omega, HT'.out, hb3, by simp; omega⟩
        case measure => rw [hs3, hms]; simp [slLen]
    · have hTe : T = [] := List.eq_nil_of_length_eq_zero (by omega)
      subst hTe
      obtain ⟨A7, c7, rfl, hr7, hA7, hF7⟩ := own_rdK hown
      have hfin := rinOrder_any bm M.length (metF M) wr hm (by omega) (ris (rFrom (hs.map Prod.fst) pOf ds)) (ris_srt _) fun s => by rw [ris_mem, metF_some, HD.out.done]
      have HFIN := Lib.hid hfin
      generalize ris (rFrom (hs.map Prod.fst) pOf ds) = R at *
      clear hfin hr7 hF7 hown hm hf HD hms
      simp only [List.length_nil]
      go_wp2_with fail
      with_reducible refine HFIN.out.mono ?_
      rintro e w4 ⟨v4, rfl, ho4, hb4⟩
      go_wp2
      go_ret
      exact ⟨_, rfl, own_base ho4 hbel.size, below_step hbel hb4⟩
end Go.Proofs.YtdbdigcpibmgjaaGreatDoor
/- Package reach: Roots. -/
namespace Go.Proofs.YtdbdigcpibmgjaaGreatDoor
open Go.RowKit
theorem metF_swap {L M : List (List UInt8)} (h : ∀ s, s ∈ L ↔ s ∈ M) (s : List UInt8) : metF L s = metF M s := by
  unfold metF
  by_cases q : s ∈ L
  · rw [if_pos q, if_pos ((h s).1 q)]
  · rw [if_neg q, if_neg fun p => q ((h s).2 p)]
set_option maxRecDepth 100000 in
set_option maxHeartbeats 4000000 in
theorem rroots_any (A B : Option Addr) (n c m k : Nat) (l : List Bl) (es : List En) (rm ck : Int) (w : World) (hr : KRd kBl w A n c l) (he : KRd kEn w B m k es) (hgl : ∀ b ∈ l, b.dg.length ≤ maxLen) (hge : ∀ e ∈ es, ∀ p ∈ e.ps, p.dg.length ≤ maxLen) (hT : (roots l es).length * 16 ≤ 140737488351232) :
    Calls Tryz.prog 26 #[.agg #[.slice A n c, .slice B m k, .int .i64 rm, .int .i64 ck]] w (GivesTx (ris (roots l es)) w) := by
  obtain rfl := hr.len
  obtain rfl := he.len
  have hcap := hr.cap
  have hcap2 := he.cap
  unfold maxLen at hcap hcap2
  have HT := Lib.hid hT
  have HGL := Lib.hid hgl
  have HGE := Lib.hid hge
  clear hT hgl hge
  have hal := (Below.refl w.heap.size w).alloc (Nat.le_refl _) (.cells #[.slice A l.length c, .slice B es.length k, .int .i64 rm, .int .i64 ck] 25)
  have hbk := Blk.new w 25 [.slice A l.length c, .slice B es.length k, .int .i64 rm, .int .i64 ck]
  have hr0 := hr.below hal
  have he0 := he.below hal
  have hmk := @run_makeMap Tryz.prog
  obtain ⟨u, hu⟩ : ∃ u, w.alloc (.cells #[Value.slice A l.length c, Value.slice B es.length k, Value.int .i64 rm, Value.int .i64 ck] 25) = u := ⟨_, rfl⟩
  have hbkA := hbk.alloc (.map #[] 0)
  have e1 := hbkA.cell 1
  simp only [List.getElem?_cons_succ, List.getElem?_cons_zero] at e1
  have hsu : u.heap.size = w.heap.size + 1 := by rw [← hu]; simp
  have hbm0 : Below u.heap.size u (u.alloc (.map #[] 0)) := (Below.refl _ _).alloc (Nat.le_refl _) _
  have hm0 := MapF.made u
  have HU := Lib.hid hu
  rw [hu] at hr0 he0 hal hbk
  clear hr he hu hbkA
  go_enter Tryz.func26, Tryz.ntmps26
  go_wp2_with fail
  rw [show (w.alloc (.cells #[Value.slice A l.length c, Value.slice B es.length k, Value.int .i64 rm, Value.int .i64 ck] 25)) = u from HU.out]
  clear e1 hmk
  obtain ⟨bm, hbm⟩ : ∃ bm, w.heap.size + 1 = bm := ⟨_, rfl⟩
  have hbu : u.heap.size = bm := by omega
  rw [hbu] at hm0 hbm0
  try rw [hbm]
  rw [hbm] at hsu
  clear HU
  go_loopw [14] (fun s wr => ∃ i : Nat, i ≤ es.length ∧ s = .int .i64 i ∧ MapF wr bm (eRoots (es.take i)).length (metF (eRoots (es.take i))) ∧ Below u.heap.size u wr ∧ bm < wr.heap.size) (fun s _ => es.length - (intOf s).toNat)
  case atStart => exact ⟨0, Nat.zero_le _, rfl, hm0.congr fun s => rfl, by rw [hbu]; exact hbm0, by simp; omega⟩
  case round =>
    clear hm0 hbm0
    obtain ⟨i, hi, rfl, hm, hbel, hbz⟩ := hrel
    by_cases hlt : i < es.length
    · obtain ⟨b, off, D, dn, dc, rfl, uc0, uc1, uc2, uc3, hrD, hDn⟩ := he0.entry hlt
      have hc0 := (hbel.cell (p := ⟨b, off + i * 4, none⟩) (cell_lt uc0)).trans uc0
      have hc1 := (hbel.cell (p := ⟨b, off + i * 4 + 1, none⟩) (cell_lt uc1)).trans uc1
      have hc2 := (hbel.cell (p := ⟨b, off + i * 4 + 2, none⟩) (cell_lt uc2)).trans uc2
      have hc3 := (hbel.cell (p := ⟨b, off + i * 4 + 3, none⟩) (cell_lt uc3)).trans uc3
      clear uc0 uc1 uc2 uc3
      have hii : (i : Int) < (es.length : Int) := by omega
      have HS := Lib.hid (eRoots_step hlt)
      have hpre := eRoots_pre es (i + 1)
      have hlen : (eRoots (es.take i)).length + es[i].ps.length ≤ (roots l es).length := by
        rw [eRoots_step hlt, List.length_append, List.length_map] at hpre
        unfold roots
        rw [List.length_append]; omega
      have hlen2 : ((eRoots (es.take i)).length + es[i].ps.length) * 16 ≤ 140737488351232 := by have := HT.out; omega
      have HGP : Hid (∀ p ∈ es[i].ps, p.dg.length ≤ maxLen) := fun p hp => HGE.out _ (List.getElem_mem hlt) p hp
      clear hpre hlen
      generalize eRoots (es.take i) = out at *
      generalize es[i] = x at *
      obtain ⟨ky, ps, pn, st⟩ := x
      simp only at hc0 hc1 hc2 hc3 hrD hlen2 HS HGP
      obtain rfl : dn = ps.length := hrD.plen
      have hpc := hrD.2.1
      have hpm := hrD.2.2.1
      unfold maxLen at hpm
      have hal2 := (Below.refl wr.heap.size wr).alloc (Nat.le_refl _) (.cells #[.string (str ky), .slice D ps.length dc, .int .i64 pn, .int .i64 st] 74)
      have hbk2 := Blk.new wr 74 [.string (str ky), .slice D ps.length dc, .int .i64 pn, .int .i64 st]
      have f1 := hbk2.cell 1
      simp only [List.getElem?_cons_succ, List.getElem?_cons_zero] at f1
      have hm2 := hm.alloc (.cells #[.string (str ky), .slice D ps.length dc, .int .i64 pn, .int .i64 st] 74)
      have hbel2 := below_step hbel hal2
      have hbz2 := hm2.lt
      go_wp2_with fail
      rename World => wo2
      clear hc0 hc1 hc2 hc3 f1 hbk2 hm
      go_loopw [21] (fun s wr => ∃ j : Nat, j ≤ ps.length ∧ s = .int .i64 j ∧ MapF wr bm (out.length + j) (metF (out ++ (ps.take j).map Prt.dg)) ∧ Below u.heap.size u wr ∧ bm < wr.heap.size) (fun s _ => ps.length - (intOf s).toNat)
      case atStart => exact ⟨0, Nat.zero_le _, rfl, by rw [List.take_zero, List.map_nil, List.append_nil]; exact hm2, hbel2, hbz2⟩
      case round =>
        clear hm2 hbel2 hbel hal2 hbz2 hbz
        obtain ⟨j, hj, rfl, hm, hbel, hbz⟩ := hrel
        by_cases hlt2 : j < ps.length
        · obtain ⟨b2, off2, rfl, c0, c1, c2⟩ := (hrD.below hbel).part hlt2
          have hji : (j : Int) < (ps.length : Int) := by omega
          have HS2 : Hid (out ++ (ps.take (j + 1)).map Prt.dg = (out ++ (ps.take j).map Prt.dg) ++ [ps[j].dg]) := by
            show _ = _
            rw [List.take_succ_eq_append_getElem hlt2, List.map_append, List.append_assoc]; rfl
          have hgy := HGP.out _ (List.getElem_mem hlt2)
          generalize out ++ (ps.take j).map Prt.dg = o2 at *
          generalize ps[j] = y at *
          have hal3 := (Below.refl wr.heap.size wr).alloc (Nat.le_refl _) (.cells #[.string (str y.nm), .string (str y.dg), .int .i64 y.sz] 97)
          have hbk3 := Blk.new wr 97 [.string (str y.nm), .string (str y.dg), .int .i64 y.sz]
          have g1 := hbk3.cell 1
          simp only [List.getElem?_cons_succ, List.getElem?_cons_zero] at g1
          have hm3 := hm.alloc (.cells #[.string (str y.nm), .string (str y.dg), .int .i64 y.sz] 97)
          have hbel3 := below_step hbel hal3
          obtain ⟨w4, hupd, hm4, hg4⟩ := hm3.update Tryz.underlying84 (by unfold maxLen; omega) hgy (.bool true)
          have hm5 := hm4.congr fun s => metF_add o2 y.dg s
          have hb5 := hbel3.grown hg4 hbel3.size (fun q e => by injection e with e; omega)
          have hz5 := hm5.lt
          clear hm4 hg4 hm3 hbk3 hal3 hbel3 hm hbel
          go_wp2
          go_roundw
          case rel => exact ⟨j + 1, by omega, by go_num, by rw [HS2.out]; exact hm5, hb5, hz5⟩
          case measure => simp [intOf] <;> omega
        · have hd2 : decide ((j : Int) < (ps.length : Int)) = false := by rw [decide_eq_false_iff_not]; omega
          obtain rfl : j = ps.length := by omega
          rw [List.take_length, ← HS.out] at hm
          have hlo : (eRoots (es.take (i + 1))).length = out.length + ps.length := by rw [HS.out, List.length_append, List.length_map]
          rw [← hlo] at hm
          clear hlo
          go_wp2
          go_roundw
          case rel => exact ⟨i + 1, by omega, by go_num, hm, hbel, hbz⟩
          case measure => simp [intOf] <;> omega
    · have hd2 : decide ((i : Int) < (es.length : Int)) = false := by rw [decide_eq_false_iff_not]; omega
      rw [List.take_of_length_le (by omega)] at hm
      have hbkr := hbk.below hbel hbk.lt
      have e0 := hbkr.cell 0
      simp only [List.getElem?_cons_zero] at e0
      go_wp2_with fail
      clear hi hd2 hlt
      rename World => wo
      go_loopw [33] (fun s wr => ∃ i : Nat, i ≤ l.length ∧ s = .int .i64 i ∧ MapF wr bm ((eRoots es).length + (bRoots (l.take i)).length) (metF (eRoots es ++ bRoots (l.take i))) ∧ Below u.heap.size u wr ∧ bm < wr.heap.size) (fun s _ => l.length - (intOf s).toNat)
      case atStart => exact ⟨0, Nat.zero_le _, rfl, by rw [List.take_zero, show bRoots [] = [] from rfl, List.append_nil]; exact hm, hbel, hbz⟩
      case round =>
        clear hm hbel hbkr e0 hbz
        obtain ⟨i, hi, rfl, hm, hbel, hbz⟩ := hrel
        by_cases hlt : i < l.length
        · obtain ⟨b, off, D, dn, dc, rfl, hc0, hc1, hc2, hc3, -, -⟩ := (hr0.below hbel).blob hlt
          have hii : (i : Int) < (l.length : Int) := by omega
          have HS := Lib.hid (bRoots_step hlt)
          have hpre := bRoots_pre l i
          have hlen : ((eRoots es).length + (bRoots (l.take i)).length) * 16 ≤ 140737488351232 := by
            have h1 := HT.out
            unfold roots at h1
            rw [List.length_append] at h1; omega
          have hgx := HGL.out _ (List.getElem_mem hlt)
          clear hpre
          generalize bRoots (l.take i) = out at *
          generalize l[i] = x at *
          have hal2 := (Below.refl wr.heap.size wr).alloc (Nat.le_refl _) (.cells #[.string (str x.dg), .slice D dn dc, .int .i64 x.pn, .bool x.mr] 45)
          have hbk2 := Blk.new wr 45 [.string (str x.dg), .slice D dn dc, .int .i64 x.pn, .bool x.mr]
          have f0 := hbk2.cell 0
          have f2 := hbk2.cell 2
          simp only [List.getElem?_cons_succ, List.getElem?_cons_zero] at f0 f2
          have hm2 := hm.alloc (.cells #[.string (str x.dg), .slice D dn dc, .int .i64 x.pn, .bool x.mr] 45)
          have hbel2 := below_step hbel hal2
          by_cases hp : 0 < x.pn
          · have HI : Hid (bRoots (l.take (i + 1)) = out ++ [x.dg]) := by show _ = _; rw [HS.out, if_pos hp]
            obtain ⟨w4, hupd, hm4, hg4⟩ := hm2.update Tryz.underlying84 (by unfold maxLen; omega) hgx (.bool true)
            have hm5 := hm4.congr fun s => metF_add (eRoots es ++ out) x.dg s
            have hb5 := hbel2.grown hg4 hbel2.size (fun q e => by injection e with e; omega)
            have hz5 := hm5.lt
            clear hm4 hg4 hm2 hbk2 hal2 hbel2 hm hbel
            go_wp2
            go_roundw
            case rel => exact ⟨i + 1, by omega, by go_num, by rw [HI.out, List.length_append, ← List.append_assoc]; exact hm5, hb5, hz5⟩
            case measure => simp [intOf] <;> omega
          · have HI : Hid (bRoots (l.take (i + 1)) = out) := by show _ = _; rw [HS.out, if_neg hp, List.append_nil]
            have d1 : decide (0 < x.pn) = false := by rw [decide_eq_false_iff_not]; exact hp
            have hz2 := hm2.lt
            go_wp2
            go_roundw
            case rel => exact ⟨i + 1, by omega, by go_num, by rw [HI.out]; exact hm2, hbel2, hz2⟩
            case measure => simp [intOf] <;> omega
        · have hd2 : decide ((i : Int) < (l.length : Int)) = false := by rw [decide_eq_false_iff_not]; omega
          rw [List.take_of_length_le (by omega)] at hm
          have hlr : ((eRoots es).length + (bRoots l).length) * 16 ≤ 140737488355328 := by
            have h1 := HT.out
            unfold roots at h1
            rw [List.length_append] at h1; omega
          have hfin := rinOrder_any bm _ _ wr hm hlr (ris (roots l es)) (ris_srt _) fun s => by
            rw [ris_mem, metF_some, List.mem_append]
            unfold roots
            rw [List.mem_append]; exact or_comm
          have HFIN := Lib.hid hfin
          generalize ris (roots l es) = R at *
          have hbz' : w.heap.size ≤ wr.heap.size := by omega
          have hbZ := below_step hal hbel
          clear hfin hm hlr
          go_wp2_with fail
          with_reducible refine HFIN.out.mono ?_
          rintro e w2 ⟨v2, rfl, hown2, hb2⟩
          go_wp2
          go_ret
          exact ⟨_, rfl, own_base hown2 hbz', below_step hbZ hb2⟩
end Go.Proofs.YtdbdigcpibmgjaaGreatDoor
/- Package reach: From over a list of blobs. -/
namespace Go.Proofs.YtdbdigcpibmgjaaGreatDoor
open Go.RowKit
theorem rfrom_any (A : Option Addr) (n c : Nat) (l : List Bl) (B : Option Addr) (m q : Nat) (ds : List (List UInt8)) (w : World) (hr : KRd kBl w A n c l) (hz : n * 56 ≤ 140737488351232) (hs : Rd w 1 B m q (ds.map sv)) (hB : B = none → q = 0)
    (hgl : ∀ b ∈ l, b.dg.length ≤ maxLen) (hgd : ∀ d ∈ ds, d.length ≤ maxLen) (hroom : (ds.length + 8 * l.length) * 16 ≤ 140737488351232) :
    Calls Tryz.prog 22 #[.slice A n c, .slice B m q] w (GivesTx (ris (rFrom l pOf ds)) w) := by
  obtain ⟨hs', rfl, hr', hd⟩ := hr
  exact rfrom_hs A n c hs' B m q ds w hr' hd (fun x hx => hgl _ (List.mem_map.2 ⟨x, hx, rfl⟩)) hs hB hgd hz (by rwa [List.length_map] at hroom)
theorem gives_ex {P : Program} {f : FuncId} {args : Array Value} {L : List (List UInt8)} {w : World} (h : Calls P f args w (GivesTx L w)) :
    Calls P f args w fun e w' => ∃ v, e = .returned v ∧ w'.ownsRow w.heap.size 9 1 v L.length (L.map sv) ∧ Below w.heap.size w w' := h
end Go.Proofs.YtdbdigcpibmgjaaGreatDoor
/- Package reach: All. -/
namespace Go.Proofs.YtdbdigcpibmgjaaGreatDoor
open Go.RowKit
/-- all that a store comes to -/
def sReach (l : List Bl) (es : List En) : List (List UInt8) := ris (rFrom l pOf (ris (roots l es)))
theorem roots_le {l : List Bl} {es : List En} (hgl : ∀ b ∈ l, b.dg.length ≤ maxLen) (hge : ∀ e ∈ es, ∀ p ∈ e.ps, p.dg.length ≤ maxLen) : ∀ d ∈ ris (roots l es), d.length ≤ maxLen := by
  intro d hd
  rcases mem_roots.1 (ris_mem.1 hd) with ⟨b, hb, _, rfl⟩ | ⟨e, he, p, hp, rfl⟩
  · exact hgl b hb
  · exact hge e he p hp
set_option maxRecDepth 100000 in
set_option maxHeartbeats 2000000 in
theorem rall_any (A B : Option Addr) (n c m k : Nat) (l : List Bl) (es : List En) (rm ck : Int) (w : World) (hr : KRd kBl w A n c l) (he : KRd kEn w B m k es) (hgl : ∀ b ∈ l, b.dg.length ≤ maxLen) (hge : ∀ e ∈ es, ∀ p ∈ e.ps, p.dg.length ≤ maxLen)
    (hz : n * 56 ≤ 140737488351232) (hT : ((roots l es).length + 8 * l.length) * 16 ≤ 140737488351232) :
    Calls Tryz.prog 18 #[.agg #[.slice A n c, .slice B m k, .int .i64 rm, .int .i64 ck]] w (GivesTx (sReach l es) w) := by
  have hal := (Below.refl w.heap.size w).alloc (Nat.le_refl _) (.cells #[.slice A n c, .slice B m k, .int .i64 rm, .int .i64 ck] 25)
  have hbk := Blk.new w 25 [.slice A n c, .slice B m k, .int .i64 rm, .int .i64 ck]
  have hr0 := hr.below hal
  have he0 := he.below hal
  have HRR := fun W hW => Lib.hid (gives_ex (rroots_any A B n c m k l es rm ck W (hr0.below (w' := W) hW) (he0.below hW) hgl hge (by omega)))
  have hRm := roots_le hgl hge
  have hRl := ris_length (roots l es)
  have HS : Hid (sReach l es = ris (rFrom l pOf (ris (roots l es)))) := rfl
  obtain ⟨R, hR⟩ : ∃ R, ris (roots l es) = R := ⟨_, rfl⟩
  rw [hR] at HRR HS hRm hRl
  have hroom : (R.length + 8 * l.length) * 16 ≤ 140737488351232 := by omega
  have HRM := Lib.hid hRm
  have HRO := Lib.hid hroom
  have HGL := Lib.hid hgl
  clear hR hr he he0 hRm hRl hroom hT hgl hge
  rw [HS.out]
  have st4 : ∀ {W : World}, Blk W w.heap.size 25 [.slice A n c, .slice B m k, .int .i64 rm, .int .i64 ck] → W.cell? ⟨w.heap.size, 0, none⟩ = some (.slice A n c) ∧ W.cell? ⟨w.heap.size, 1, none⟩ = some (.slice B m k) ∧ W.cell? ⟨w.heap.size, 2, none⟩ = some (.int .i64 rm) ∧ W.cell? ⟨w.heap.size, 3, none⟩ = some (.int .i64 ck) := fun h => ⟨h.cell 0, h.cell 1, h.cell 2, h.cell 3⟩
  go_enter Tryz.func18, Tryz.ntmps18
  go_upto_region 1 with fail
  generalize hu : w.alloc (.cells [Value.slice A n c, Value.slice B m k, Value.int .i64 rm, Value.int .i64 ck].toArray 25) = u at *
  clear hu
  have H1 := HRR u.drew (Below.refl u.heap.size u).drew
  go_region_held_law (fun W => W.cell? ⟨w.heap.size, 0, none⟩ = some (.slice A n c) ∧ W.cell? ⟨w.heap.size, 1, none⟩ = some (.slice B m k) ∧ W.cell? ⟨w.heap.size, 2, none⟩ = some (.int .i64 rm) ∧ W.cell? ⟨w.heap.size, 3, none⟩ = some (.int .i64 ck)) (first | with_reducible exact st4 hbk.drew | with_reducible exact st4 h1k | with_reducible exact st4 h2k | go_keep)
   (first
    | (go_at_call 26; with_reducible refine H1.out.mono ?_; rintro e w1 ⟨v1, rfl, hown1, hb1⟩; obtain ⟨A1, c1, rfl, hr1, hA1, -⟩ := own_rdK hown1; have h1k := hbk.drew.below hb1 hbk.drew.lt; have hrl := hr0.drew.below hb1)
    | (go_at_call 22; with_reducible refine (gives_ex (rfrom_any _ _ _ l _ _ _ R _ hrl hz hr1 hA1 HGL.out HRM.out HRO.out)).mono ?_; rintro e w2 ⟨v2, rfl, hown2, hb2⟩; have h2k := h1k.below hb2 h1k.lt))
  all_goals
    go_wp2
    go_ret
    exact ⟨_, rfl, own_base hown2 (Nat.le_trans hal.size hb1.size), below_step (below_step hal.drew hb1) hb2⟩
end Go.Proofs.YtdbdigcpibmgjaaGreatDoor
