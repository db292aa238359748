/- Texts that belong together: what the functions of the program and of the statements return. -/
import Derived.Test.YtdbdigcpibmgjaaGreatDoorGF
import Derived.Test.YtdbdigcpibmgjaaGreatDoorQKs
import Derived.Test.YtdbdigcpibmgjaaGreatDoorGY
/- The seven keys of the statements, and a key that is none of them. Nothing of the program. -/
namespace Go.Proofs.YtdbdigcpibmgjaaGreatDoor
/-- key a of the statements -/
def keyN (a : Nat) : List UInt8 := dig [107, UInt8.ofNat a]
/-- a key that is not among them: the bytes 'new and never else' -/
def keyNew : List UInt8 := dig [110, 101, 119, 32, 97, 110, 100, 32, 110, 101, 118, 101, 114, 32, 101, 108, 115, 101]
set_option maxRecDepth 100000 in
theorem keyN_new : ∀ a : Fin 7, keyN a.val ≠ keyNew := by decide +kernel
/-- no more things than there are places for them -/
theorem pigeon {α : Type} [DecidableEq α] : ∀ (l m : List α), l.Pairwise (· ≠ ·) → (∀ x ∈ l, x ∈ m) → l.length ≤ m.length
  | [], _, _, _ => by simp
  | x :: r, m, h, hm => by
    obtain ⟨h1, h2⟩ := List.pairwise_cons.1 h
    have hx := hm x (List.mem_cons_self ..)
    have := pigeon r (m.erase x) h2 fun y hy => by
      have hne : y ≠ x := fun e => h1 y hy e.symm
      exact (List.mem_erase_of_ne hne).2 (hm y (List.mem_cons_of_mem _ hy))
    have hl := List.length_erase_of_mem hx
    have hp : 0 < m.length := List.length_pos_of_mem hx
    rw [List.length_cons]; omega
theorem keys_seven {l : List (List UInt8)} (h : l.Pairwise (· ≠ ·)) (hm : ∀ x ∈ l, ∃ a, a < 7 ∧ x = keyN a) : l.length ≤ 7 := by
  have := pigeon l ((List.range 7).map keyN) h fun x hx => by
    obtain ⟨a, ha, rfl⟩ := hm x hx
    exact List.mem_map.2 ⟨a, by simpa using ha, rfl⟩
  simpa using this
end Go.Proofs.YtdbdigcpibmgjaaGreatDoor
/- The entries of the statements' own Store: what holds of them. -/
namespace Go.Proofs.YtdbdigcpibmgjaaGreatDoor
open Go.RowKit
theorem keyB_N (m : Int) : ∃ a, a < 7 ∧ keyB m = keyN a := by
  have := pk_range m 7 (by omega)
  exact ⟨(pk m 7).toNat, by omega, rfl⟩
theorem keyB_new (m : Int) : keyB m ≠ keyNew := by
  obtain ⟨a, ha, e⟩ := keyB_N m
  rw [e]
  exact keyN_new ⟨a, ha⟩
/-- entries of a store: all that the laws want of them -/
structure StE (L : List En) : Prop where
  err : xsErr L = 0
  len : L.length ≤ 7
  srt : SrE L
  fine : ∀ e ∈ L, e.fine
  key : ∀ e ∈ L, ∃ m : Int, e.ky = keyB m
  few : ∀ e ∈ L, e.pn ≤ 1 ∧ e.st ≤ 24
theorem StE.of {l : List Rw} {L : List En} (hp : L.Perm (sAll l).es) (hs : SrtE L) : StE L := by
  have hok : SvOk 12 (sAll l) := SvOk.all l 12
  have hf : ∀ e ∈ L, e.fine ∧ (∃ m : Int, e.ky = keyB m) ∧ e.pn ≤ 1 ∧ e.st ≤ 24 := fun e he => by
    obtain ⟨e1, e2, e3, e4, e5, e6, e7, -⟩ := hok.ef e (hp.mem_iff.1 he)
    have hck := hok.ck
    exact ⟨⟨e1, e2, e3, by omega, e5, by omega⟩, e7, e4, by omega⟩
  have hd : (L.map En.ky).Pairwise (· ≠ ·) := by
    rw [List.pairwise_map]
    exact (hp.pairwise_iff (fun h => Ne.symm h)).2 hok.ed
  have hl : L.length ≤ 7 := by
    have := keys_seven hd fun x hx => by
      obtain ⟨e, he, rfl⟩ := List.mem_map.1 hx
      obtain ⟨m, hm⟩ := (hf e he).2.1
      obtain ⟨a, ha, q⟩ := keyB_N m
      exact ⟨a, ha, hm.trans q⟩
    rwa [List.length_map] at this
  have hfine : ∀ e ∈ L, e.fine := fun e he => (hf e he).1
  exact ⟨xsErr_zero.2 ⟨by omega, hfine, hs⟩, hl, hs, hfine, fun e he => (hf e he).2.1, fun e he => (hf e he).2.2⟩
set_option maxRecDepth 100000 in
/-- the field Entries of a store -/
theorem store_field1 (a b c d : Value) (w : World) : (Instr.field 25 (.agg #[a, b, c, d]) 1).run Tryz.prog w = .ok b w := by kernel_rfl
/-- a store's entries, as the call hands them back -/
def GivesSE (w : World) (e : Ending) (w' : World) : Prop :=
  ∃ A c L A2 n2 c2 r k, e = .returned (.agg #[.slice A2 n2 c2, .slice A (L : List En).length c, .int .i64 r, .int .i64 k]) ∧ KNew kEn w' w.heap.size A L.length c L ∧ StE L ∧ Below w.heap.size w w'
theorem store_entries (A : Option Addr) (n c : Nat) (l : List Rw) (w : World) (hr : Rd w 4 A n c (rcs l)) (hg : ∀ p ∈ l, p.good) (hn : n ≤ 4294967296000) :
    Calls Tryz.prog 16 #[.slice A n c] w (GivesSE w) := by
  refine (store_any A n c l w hr hg hn).mono ?_
  rintro e w' ⟨vB, vE, hB, hE, rfl, h2, -, hp, -, hs, hb⟩
  obtain ⟨A1, c1, rfl, -⟩ := h2.a.own.new
  obtain ⟨A2, c2, rfl, hN⟩ := h2.b.own.new
  exact ⟨A2, c2, hE.map Prod.fst, A1, _, c1, _, _, rfl, hN.rebase (by omega), StE.of hp hs, hb⟩
end Go.Proofs.YtdbdigcpibmgjaaGreatDoor
