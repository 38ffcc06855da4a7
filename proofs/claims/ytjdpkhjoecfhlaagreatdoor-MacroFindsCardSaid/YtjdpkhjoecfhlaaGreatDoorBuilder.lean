/- The contracts of strings.Builder's writing methods, laid by hand over this program's numbers. strings.Builder: what its methods do, over lists of bytes. -/
import Derived.Test.YtjdpkhjoecfhlaaGreatDoorRows
import Derived.Shelf.Strings.BuilderF
import Derived.Shelf.Strings.BuilderK
import Derived.Test.YtjdpkhjoecfhlaaGreatDoorEd
import Derived.Test.YtjdpkhjoecfhlaaGreatDoorShelf

namespace Go.Proofs.YtjdpkhjoecfhlaaGreatDoor
open Go.Shelf Go.RowKit

def bldRen : Go.Shelf.Ren := ⟨fun | 166 => 114 | 240 => 161 | 276 => 209 | n => n, fun | 0 => 0 | 3 => 3 | 4 => 4 | 5 => 5 | 9 => 9 | 20 => 20 | 37 => 49 | 70 => 174 | 72 => 176 | 75 => 145 | 80 => 182 | 164 => 244 | n => n, fun | n => n⟩

theorem bld240 : Go.Proofs.Lays.n240 Tryz.prog bldRen := {
  mixed := by kernel_rfl
  f240 := Tryz.func161.trans (congrArg some (by kernel_rfl))
  f276 := Tryz.func209.trans (congrArg some (by kernel_rfl))
  t0 := Tryz.underlying0
  a0 := Tryz.isAgg0
  z0 := Tryz.sizeOf0
  v0 := Tryz.zeroValue0
  t4 := Tryz.underlying4
  a4 := Tryz.isAgg4
  z4 := Tryz.sizeOf4
  v4 := Tryz.zeroValue4
  t9 := Tryz.underlying9
  a9 := Tryz.isAgg9
  z9 := Tryz.sizeOf9
  v9 := Tryz.zeroValue9
  t20 := Tryz.underlying20
  a20 := Tryz.isAgg20
  z20 := Tryz.sizeOf20
  v20 := Tryz.zeroValue20
  t70 := Tryz.underlying174
  a70 := Tryz.isAgg174
  z70 := Tryz.sizeOf174
  v70 := Tryz.zeroValue174
  t72 := Tryz.underlying176
  a72 := Tryz.isAgg176
  z72 := Tryz.sizeOf176
  v72 := Tryz.zeroValue176
  t164 := Tryz.underlying244
  a164 := Tryz.isAgg244
  z164 := Tryz.sizeOf244
  v164 := Tryz.zeroValue244 }

theorem bld166 : Go.Proofs.Lays.n166 Tryz.prog bldRen := {
  mixed := by kernel_rfl
  f166 := Tryz.func114.trans (congrArg some (by kernel_rfl))
  f240 := Tryz.func161.trans (congrArg some (by kernel_rfl))
  f276 := Tryz.func209.trans (congrArg some (by kernel_rfl))
  t0 := Tryz.underlying0
  a0 := Tryz.isAgg0
  z0 := Tryz.sizeOf0
  v0 := Tryz.zeroValue0
  t3 := Tryz.underlying3
  a3 := Tryz.isAgg3
  z3 := Tryz.sizeOf3
  v3 := Tryz.zeroValue3
  t4 := Tryz.underlying4
  a4 := Tryz.isAgg4
  z4 := Tryz.sizeOf4
  v4 := Tryz.zeroValue4
  t9 := Tryz.underlying9
  a9 := Tryz.isAgg9
  z9 := Tryz.sizeOf9
  v9 := Tryz.zeroValue9
  t20 := Tryz.underlying20
  a20 := Tryz.isAgg20
  z20 := Tryz.sizeOf20
  v20 := Tryz.zeroValue20
  t37 := Tryz.underlying49
  a37 := Tryz.isAgg49
  z37 := Tryz.sizeOf49
  v37 := Tryz.zeroValue49
  t70 := Tryz.underlying174
  a70 := Tryz.isAgg174
  z70 := Tryz.sizeOf174
  v70 := Tryz.zeroValue174
  t72 := Tryz.underlying176
  a72 := Tryz.isAgg176
  z72 := Tryz.sizeOf176
  v72 := Tryz.zeroValue176
  t75 := Tryz.underlying145
  a75 := Tryz.isAgg145
  z75 := Tryz.sizeOf145
  v75 := Tryz.zeroValue145
  t164 := Tryz.underlying244
  a164 := Tryz.isAgg244
  z164 := Tryz.sizeOf244
  v164 := Tryz.zeroValue244 }

theorem bldX : Builder.Extra Tryz.prog bldRen := {
  sizeBuilder := by kernel_rfl
  liesBuilder := by kernel_rfl
  t5 := Tryz.underlying5
  a5 := Tryz.isAgg5
  z5 := Tryz.sizeOf5
  v5 := Tryz.zeroValue5
  infoByte := by kernel_rfl
  cellsByte := by kernel_rfl
  sizeByte := by kernel_rfl
  neB5 := by decide }

end Go.Proofs.YtjdpkhjoecfhlaaGreatDoor

namespace Go.Proofs.YtjdpkhjoecfhlaaGreatDoor
open Go.RowKit Go.Shelf

/-- the builder at block b holds the bytes bs; what it owns lies from block B on -/
def Bld (w : World) (B b : Nat) (bs : List UInt8) : Prop := Lib.IsBuilderF 176 5 B b (Lib.byteCells bs) w

theorem Bld.new (w : World) : Bld (w.alloc (.cells #[.pointer none, .slice none 0 0] 176)) w.heap.size w.heap.size [] :=
  Lib.IsBuilderF.of (Lib.fresh_isBuilder 176 5 w)

theorem Bld.below {w w' : World} {B b : Nat} {bs : List UInt8} (h : Bld w B b bs) (hb : Below w.heap.size w w') : Bld w' B b bs := by
  have key : ∀ p, Lib.BuilderAtF 176 5 B b p (Lib.byteCells bs) w → Lib.BuilderAtF 176 5 B b p (Lib.byteCells bs) w' := fun p hp => by
    have hlt := hp.lt
    obtain ⟨h1, v, h2, h3, h4⟩ := hp
    exact ⟨h1, v, (hb.block b hlt).trans h2, h3.kept (row := none) ⟨hb.os, hb.tape, hb.output, hb.size, fun k hk _ => hb.block k hk⟩ (by cases hv : v.ownBlock <;> simp), h4⟩
  rcases h with h | h
  · exact .inl (key _ h)
  · exact .inr (key _ h)

theorem Bld.alloc {w : World} {B b : Nat} {bs : List UInt8} (h : Bld w B b bs) (o : Obj) : Bld (w.alloc o) B b bs := h.below ((Below.refl _ _).alloc (Nat.le_refl _) o)
theorem Bld.drew {w : World} {B b : Nat} {bs : List UInt8} (h : Bld w B b bs) : Bld w.drew B b bs := h.below (Below.refl _ _).drew

theorem Bld.lt {w : World} {B b : Nat} {bs : List UInt8} (h : Bld w B b bs) : b < w.heap.size := by
  rcases h with h | h
  · exact h.lt
  · exact h.lt

theorem byteCells_append (a b : List UInt8) : Lib.byteCells (a ++ b) = Lib.byteCells a ++ Lib.byteCells b := by simp [Lib.byteCells]

/-- what a call keeps: all below B; every block that is no row of bytes, but the builder -/
def Keep (B b : Nat) (w w' : World) : Prop := Below B w w' ∧ Lib.OthersKept 5 (some b) w w'

theorem writeString_any (B b : Nat) (bs : List UInt8) (s : ByteArray) (w : World) (h : Bld w B b bs) (hlen : bs.length + s.size ≤ 140737488355328) (hB : B ≤ w.heap.size) :
    Calls Tryz.prog 114 #[.pointer (some ⟨b, 0, none⟩), .string s] w fun e w' => e = .returned (.tuple #[.int .i64 s.size, .nilIface]) ∧ Bld w' B b (bs ++ s.data.toList) ∧ Keep B b w w' :=
  (Any.Builder_WriteString_k bld166 bldX B b (Lib.byteCells bs) s w h (by rw [Lib.byteCells_length]; exact hlen) hB).mono fun _ _ ⟨he, h1, h2, h3⟩ => ⟨he, .inr (by rw [byteCells_append]; exact h1), h2, h3⟩

theorem bstring_any (B b : Nat) (bs : List UInt8) (w : World) (h : Bld w B b bs) (hB : B ≤ w.heap.size) :
    Calls Tryz.prog 116 #[.pointer (some ⟨b, 0, none⟩)] w fun e w' => e = .returned (.string ⟨bs.toArray⟩) ∧ Keep B b w w' :=
  (Tryz.Builder_String_any_k B b bs w h hB).mono fun _ _ ⟨he, _, h2, h3⟩ => ⟨he, h2, h3⟩

/-- a block of the call's own that is no row of bytes: its cells behind such a call -/
theorem Keep.cell {B b : Nat} {w w' : World} (h : Keep B b w w') {k : Nat} {cs : Array Value} {T : TypeId} (hk : w.heap[k]? = some (.cells cs T (0, 0))) (hkb : k ≠ b) (hT : T ≠ 5) (j : Nat) : w'.cell? ⟨k, j, none⟩ = cs[j]? := by
  have := h.2 k _ hk (fun e => hkb (Option.some.inj e)) (fun c fz e => by cases e; exact hT rfl)
  exact cell_of_row w' k j cs T (0, 0) this

theorem Keep.block {B b : Nat} {w w' : World} (h : Keep B b w w') {k : Nat} {cs : Array Value} {T : TypeId} (hk : w.heap[k]? = some (.cells cs T (0, 0))) (hkb : k ≠ b) (hT : T ≠ 5) : w'.heap[k]? = some (.cells cs T (0, 0)) :=
  h.2 k _ hk (fun e => hkb (Option.some.inj e)) (fun c fz e => by cases e; exact hT rfl)

end Go.Proofs.YtjdpkhjoecfhlaaGreatDoor
