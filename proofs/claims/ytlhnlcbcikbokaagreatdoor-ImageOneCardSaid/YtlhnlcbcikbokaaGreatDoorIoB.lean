import Derived.Test.YtlhnlcbcikbokaaGreatDoorIoA
set_option linter.unusedVariables false
set_option maxRecDepth 100000
namespace Go.Proofs.YtlhnlcbcikbokaaGreatDoor
open Go.Lift
def Tz0:LT:={ live:=[(4,[0,3]),(9,[0,3,4])],keep:=[] }
noncomputable def Ez0:Env2:={ tab:=tab,fs:=[],inl:=[] }
noncomputable def ez0_1 (v:Y8×Int×Int):St:={ s:=[(0,(.val ⟨(.slice Z1),v.1⟩)),(3,(.val ⟨Z2,v.2.1⟩)),(4,(.val ⟨Z2,v.2.2⟩))],l:=[],k:=[],b:=4096 }
noncomputable def ez0_0 (v:Y8×Int):St:={ s:=[(0,(.val ⟨(.slice Z1),v.1⟩)),(3,(.val ⟨Z2,v.2⟩))],l:=[],k:=[],b:=4096 }
def href04_Great_1 (self0:Y8×Int→Option (Bool)) (self1:Y8×Int×Int→Option (Bool)) (v:Y8×Int×Int):Option (Bool):=
 ((getI v.1 v.2.1).bind fun x2=>(bif (decide (v.2.2 < (List.length x2.2.2.2.1:Int))) then ((getI v.1 v.2.1).bind fun x3=>((getI x3.2.2.2.1 v.2.2).bind fun x4=>(bif (decide ((List.length x4.1:Int) > (100:Int))) then (some true) else (let x5:Int:=(IntKind.i64.wrap (v.2.2+(1:Int)));(self1 (v.1,v.2.1,x5)))))) else (let x6:Int:=(IntKind.i64.wrap (v.2.1+(1:Int)));(self0 (v.1,x6)))))
def gref04_Great_1 (N:Nat) (self0:Y8×Int→Option (Bool)) (self1:Y8×Int×Int→Option (Bool)) (v:Y8×Int×Int):Option (Bool):=href04_Great_1 self0 self1 v
theorem kz0_1 (N:Nat) (s0:St→Option (Bool)) (s1:St→Option (Bool)) (v):(floc (Ez0) Tz0 6 N Tryz.f32 [.bool] [false] [] 1 (outerR s0 nowhereR)) s1 (ez0_1 v)=href04_Great_1 (fun v=>s0 (ez0_0 v)) (fun v=>s1 (ez0_1 v)) v:=by kernel_rfl
theorem bz0_1 (N:Nat) (s0:St→Option (Bool)) (s1:St→Option (Bool)) (v):(floc (Ez0) Tz0 6 N Tryz.f32 [.bool] [false] [] 1 (outerR s0 nowhereR)) s1 (ez0_1 v)=gref04_Great_1 N (fun v=>s0 (ez0_0 v)) (fun v=>s1 (ez0_1 v)) v:=kz0_1 N s0 s1 v
def href04_Great_0 (loop1:Y8×Int×Int→Option (Bool)) (self0:Y8×Int→Option (Bool)) (v:Y8×Int):Option (Bool):=
 (bif (decide (v.2 < (List.length v.1:Int))) then ((getI v.1 v.2).bind fun x1=>(bif (decide ((List.length x1.2.2.2.1:Int) > (20:Int))) then (some true) else (loop1 (v.1,v.2,(0:Int))))) else (some false))
def gref04_Great_0 (N:Nat) (self0:Y8×Int→Option (Bool)) (v:Y8×Int):Option (Bool):=href04_Great_0 (iterV (gref04_Great_1 N self0) N) self0 v
theorem kz0_0 (N:Nat) (s0:St→Option (Bool)) (v):(floc (Ez0) Tz0 6 N Tryz.f32 [.bool] [false] [] 0 nowhereR) s0 (ez0_0 v)=href04_Great_0 (fun v=>iterR (floc (Ez0) Tz0 6 N Tryz.f32 [.bool] [false] [] 1 (outerR s0 nowhereR)) N (ez0_1 v)) (fun v=>s0 (ez0_0 v)) v:=by kernel_rfl
theorem bz0_0 (N:Nat) (s0:St→Option (Bool)) (v):(floc (Ez0) Tz0 6 N Tryz.f32 [.bool] [false] [] 0 nowhereR) s0 (ez0_0 v)=gref04_Great_0 N (fun v=>s0 (ez0_0 v)) v:=(kz0_0 N s0 v).trans (by rw [funext (iterR_eq ez0_1 (bz0_1 N s0) N)];rfl)
def nref04_Great (loop0:Y8×Int→Option (Bool)) (x:Y8):Option (Bool):=
 (bif (decide ((List.length x:Int) > (40:Int))) then (some true) else (loop0 (x,(0:Int))))
def mref04_Great (N:Nat) (x:Y8):Option (Bool):=nref04_Great (iterV (gref04_Great_0 N) N) x
theorem jz0 (N:Nat) (x:Y8):rise (Ez0) Tz0 6 N Tryz.f32 [(.slice Z1)] [.bool] [false] x=nref04_Great (fun v=>iterR (floc (Ez0) Tz0 6 N Tryz.f32 [.bool] [false] [] 0 nowhereR) N (ez0_0 v)) x:=by kernel_rfl
theorem lz0 (N:Nat) (x:Y8):rise (Ez0) Tz0 6 N Tryz.f32 [(.slice Z1)] [.bool] [false] x=mref04_Great N x:=(jz0 N x).trans (by rw [funext (iterR_eq ez0_0 (bz0_0 N) N)];rfl)
def cref04_Great (x:Y8):Option (Bool):=mref04_Great big x
def Gz0:Fn2:=⟨[(.slice Z1)],[.bool],[false],fun x=>cref04_Great x⟩
theorem Lz0:Rises Tryz.prog 32 Gz0:=rises_of (E:=Ez0) ⟨tabOk,fsNil2,fun _ _ _=>rfl,mixed,inlNil,rcsNil,owsNil⟩ Tryz.func32 rfl (by decide) (by kernel_rfl) (by kernel_rfl) (by kernel_rfl) (by kernel_rfl) (fun x r _ h=>⟨Tz0,6,big,(lz0 big x).trans h⟩)
def Tz1:LT:={ live:=[(4,[1,3]),(10,[1,4,5]),(17,[1,4,5,6,7])],keep:=[] }
noncomputable def Ez1:Env2:={ tab:=tab,fs:=[(32,Gz0)],inl:=[] }
noncomputable def ez1_2 (v:Int×Int×Int×Y3×Y0):St:={ s:=[(1,(.loc 0 [])),(4,(.val ⟨Z2,v.1⟩)),(5,(.val ⟨Z2,v.2.1⟩)),(6,(.loc 1 [])),(7,(.val ⟨Z2,v.2.2.1⟩))],l:=[(0,.var Z4 (.val ⟨Z4,v.2.2.2.1⟩)),(1,.var Z0 (.val ⟨Z0,v.2.2.2.2⟩))],k:=[],b:=4096 }
noncomputable def ez1_1 (v:Int×Int×Y3):St:={ s:=[(1,(.loc 0 [])),(4,(.val ⟨Z2,v.1⟩)),(5,(.val ⟨Z2,v.2.1⟩))],l:=[(0,.var Z4 (.val ⟨Z4,v.2.2⟩))],k:=[],b:=4096 }
noncomputable def ez1_0 (v:Int×Y3):St:={ s:=[(1,(.loc 0 [])),(3,(.val ⟨Z2,v.1⟩))],l:=[(0,.var Z4 (.val ⟨Z4,v.2⟩))],k:=[],b:=4096 }
def href09_Great_2 (self0:Int×Y3→Option (Bool)) (self1:Int×Int×Y3→Option (Bool)) (self2:Int×Int×Int×Y3×Y0→Option (Bool)) (v:Int×Int×Int×Y3×Y0):Option (Bool):=
 (bif (decide (v.2.2.1 < (List.length v.2.2.2.2.2.2.2.1:Int))) then ((getI v.2.2.2.2.2.2.2.1 v.2.2.1).bind fun x6=>(bif (decide ((List.length x6.1:Int) > (100:Int))) then (some true) else (let x7:Int:=(IntKind.i64.wrap (v.2.2.1+(1:Int)));(self2 (v.1,v.2.1,x7,v.2.2.2.1,v.2.2.2.2))))) else (let x8:Int:=(IntKind.i64.wrap (v.2.1+(1:Int)));(self1 (v.1,x8,v.2.2.2.1))))
def gref09_Great_2 (N:Nat) (self0:Int×Y3→Option (Bool)) (self1:Int×Int×Y3→Option (Bool)) (self2:Int×Int×Int×Y3×Y0→Option (Bool)) (v:Int×Int×Int×Y3×Y0):Option (Bool):=href09_Great_2 self0 self1 self2 v
theorem kz1_2 (N:Nat) (s0:St→Option (Bool)) (s1:St→Option (Bool)) (s2:St→Option (Bool)) (v):(floc (Ez1) Tz1 6 N Tryz.f18 [.bool] [false] [] 2 (outerR s1 nowhereR)) s2 (ez1_2 v)=href09_Great_2 (fun v=>s0 (ez1_0 v)) (fun v=>s1 (ez1_1 v)) (fun v=>s2 (ez1_2 v)) v:=by kernel_rfl
theorem bz1_2 (N:Nat) (s0:St→Option (Bool)) (s1:St→Option (Bool)) (s2:St→Option (Bool)) (v):(floc (Ez1) Tz1 6 N Tryz.f18 [.bool] [false] [] 2 (outerR s1 nowhereR)) s2 (ez1_2 v)=gref09_Great_2 N (fun v=>s0 (ez1_0 v)) (fun v=>s1 (ez1_1 v)) (fun v=>s2 (ez1_2 v)) v:=kz1_2 N s0 s1 s2 v
def href09_Great_1 (loop2:Int×Int×Int×Y3×Y0→Option (Bool)) (self0:Int×Y3→Option (Bool)) (self1:Int×Int×Y3→Option (Bool)) (v:Int×Int×Y3):Option (Bool):=
 (bif (decide (v.2.1 < (List.length v.2.2.2.2.1:Int))) then ((getI v.2.2.2.2.1 v.2.1).bind fun x4=>(let x5:Int:=(IntKind.i64.wrap (v.1+(List.length x4.2.2.2.2.1:Int)));(bif (decide ((List.length x4.1:Int) > (100:Int))) then (some true) else (bif (decide ((List.length x4.2.2.2.1:Int) > (20:Int))) then (some true) else (bif (decide ((List.length x4.2.2.2.2.1:Int) > (210:Int))) then (some true) else (bif (decide ((List.length x4.2.2.2.2.2.1:Int) > (210:Int))) then (some true) else (bif (decide ((List.length x4.2.2.2.2.2.2.1:Int) > (210:Int))) then (some true) else (bif (decide (x5 > (1000:Int))) then (some true) else (loop2 (x5,v.2.1,(0:Int),v.2.2,x4)))))))))) else (some false))
def gref09_Great_1 (N:Nat) (self0:Int×Y3→Option (Bool)) (self1:Int×Int×Y3→Option (Bool)) (v:Int×Int×Y3):Option (Bool):=href09_Great_1 (iterV (gref09_Great_2 N self0 self1) N) self0 self1 v
theorem kz1_1 (N:Nat) (s0:St→Option (Bool)) (s1:St→Option (Bool)) (v):(floc (Ez1) Tz1 6 N Tryz.f18 [.bool] [false] [] 1 nowhereR) s1 (ez1_1 v)=href09_Great_1 (fun v=>iterR (floc (Ez1) Tz1 6 N Tryz.f18 [.bool] [false] [] 2 (outerR s1 nowhereR)) N (ez1_2 v)) (fun v=>s0 (ez1_0 v)) (fun v=>s1 (ez1_1 v)) v:=by kernel_rfl
theorem bz1_1 (N:Nat) (s0:St→Option (Bool)) (s1:St→Option (Bool)) (v):(floc (Ez1) Tz1 6 N Tryz.f18 [.bool] [false] [] 1 nowhereR) s1 (ez1_1 v)=gref09_Great_1 N (fun v=>s0 (ez1_0 v)) (fun v=>s1 (ez1_1 v)) v:=(kz1_1 N s0 s1 v).trans (by rw [funext (iterR_eq ez1_2 (bz1_2 N s0 s1) N)];rfl)
def href09_Great_0 (loop1:Int×Int×Y3→Option (Bool)) (self0:Int×Y3→Option (Bool)) (v:Int×Y3):Option (Bool):=
 (bif (decide (v.1 < (List.length v.2.2.1:Int))) then ((getI v.2.2.1 v.1).bind fun x2=>(bif (decide ((List.length x2:Int) > (100:Int))) then (some true) else (let x3:Int:=(IntKind.i64.wrap (v.1+(1:Int)));(self0 (x3,v.2))))) else (loop1 ((0:Int),(0:Int),v.2)))
def gref09_Great_0 (N:Nat) (self0:Int×Y3→Option (Bool)) (v:Int×Y3):Option (Bool):=href09_Great_0 (iterV (gref09_Great_1 N self0) N) self0 v
theorem kz1_0 (N:Nat) (s0:St→Option (Bool)) (v):(floc (Ez1) Tz1 6 N Tryz.f18 [.bool] [false] [] 0 nowhereR) s0 (ez1_0 v)=href09_Great_0 (fun v=>iterR (floc (Ez1) Tz1 6 N Tryz.f18 [.bool] [false] [] 1 nowhereR) N (ez1_1 v)) (fun v=>s0 (ez1_0 v)) v:=by kernel_rfl
theorem bz1_0 (N:Nat) (s0:St→Option (Bool)) (v):(floc (Ez1) Tz1 6 N Tryz.f18 [.bool] [false] [] 0 nowhereR) s0 (ez1_0 v)=gref09_Great_0 N (fun v=>s0 (ez1_0 v)) v:=(kz1_0 N s0 v).trans (by rw [funext (iterR_eq ez1_1 (bz1_1 N s0) N)];rfl)
def nref09_Great (loop0:Int×Y3→Option (Bool)) (x:Y3):Option (Bool):=
 ((cref04_Great x.1).bind fun x1=>(bif x1 then (some true) else (bif (decide ((List.length x.2.1:Int) > (40:Int))) then (some true) else (bif (decide ((List.length x.2.2.1:Int) > (40:Int))) then (some true) else (loop0 ((0:Int),x))))))
def mref09_Great (N:Nat) (x:Y3):Option (Bool):=nref09_Great (iterV (gref09_Great_0 N) N) x
theorem jz1 (N:Nat) (x:Y3):rise (Ez1) Tz1 6 N Tryz.f18 [Z4] [.bool] [false] x=nref09_Great (fun v=>iterR (floc (Ez1) Tz1 6 N Tryz.f18 [.bool] [false] [] 0 nowhereR) N (ez1_0 v)) x:=by kernel_rfl
theorem lz1 (N:Nat) (x:Y3):rise (Ez1) Tz1 6 N Tryz.f18 [Z4] [.bool] [false] x=mref09_Great N x:=(jz1 N x).trans (by rw [funext (iterR_eq ez1_0 (bz1_0 N) N)];rfl)
def cref09_Great (x:Y3):Option (Bool):=mref09_Great big x
def Gz1:Fn2:=⟨[Z4],[.bool],[false],fun x=>cref09_Great x⟩
theorem Lz1:Rises Tryz.prog 18 Gz1:=rises_of (E:=Ez1) ⟨tabOk,(fsCons2 Lz0 fsNil2),fun _ _ _=>rfl,mixed,inlNil,rcsNil,owsNil⟩ Tryz.func18 rfl (by decide) (by kernel_rfl) (by kernel_rfl) (by kernel_rfl) (by kernel_rfl) (fun x r _ h=>⟨Tz1,6,big,(lz1 big x).trans h⟩)
def Tz66:LT:={ live:=[],keep:=[(6,[]),(11,[1,2])] }
noncomputable def Ez66:Env2:={ tab:=tab,fs:=[(10,Gz65),(20,Gz63)],inl:=[(11,Tryz.f11,Tz2)] }
def nlaw09_alive (x:Unit):Option (Bool):=
 (let x1:Y7:=((34:Int),((-1:Int),((0:Int),((0:Int),()))));(let x2:Y16:=([x1]:Y16);(let x3:Y4:=((0:Int),((0:Int),()));(let x4:Y10:=([x3]:Y10);(let x5:Y4:=((0:Int),((0:Int),()));(let x6:Y10:=([x5]:Y10);(let x7:Y14:=([(([109]:List Int),((0:Int),((-1:Int),(([]:List Y2),(x2,(x4,(x6,())))))))]:Y14);((cimage_Encode (([]:List Y1),(([]:List Y6),(x7,())))).bind fun x8=>(let x9:Y7:=((34:Int),((-1:Int),((0:Int),((0:Int),()))));(let x10:Y16:=([x9]:Y16);(let x11:Y4:=((0:Int),((0:Int),()));(let x12:Y10:=([x11]:Y10);(let x13:Y4:=((0:Int),((0:Int),()));(let x14:Y10:=([x13]:Y10);(let x15:Y14:=([(([109]:List Int),((0:Int),((-1:Int),(([]:List Y2),(x10,(x12,(x14,())))))))]:Y14);((cimage_Address ((([]:List Y1),(([]:List Y6),(x15,()))),(0:Int),(0:Int))).bind fun x16=>(bif (x8.2==(0:Int)) then (let x17:Y6:=([(0:Int),(0:Int),(1:Int),(1:Int),(109:Int),(0:Int),(1:Int),(0:Int),(1:Int),(34:Int),(1:Int),(1:Int),(0:Int),(0:Int),(1:Int),(0:Int),(0:Int)]:Y6);(bif (eqD .str x8.1 x17) then (bif (x16.2==(0:Int)) then (some (x16.1==(256:Int))) else (some false)) else (some false))) else (some false))))))))))))))))))
def mlaw09_alive (N:Nat) (x:Unit):Option (Bool):=nlaw09_alive x
theorem jz66 (N:Nat) (x:Unit):rise (Ez66) Tz66 6 N Tryz.f17 [] [.bool] [false] x=nlaw09_alive x:=by kernel_rfl
theorem lz66 (N:Nat) (x:Unit):rise (Ez66) Tz66 6 N Tryz.f17 [] [.bool] [false] x=mlaw09_alive N x:=(jz66 N x).trans rfl
def claw09_alive (x:Unit):Option (Bool):=mlaw09_alive big x
def Gz66:Fn2:=⟨[],[.bool],[false],fun x=>claw09_alive x⟩
theorem Lz66:Rises Tryz.prog 17 Gz66:=rises_of (E:=Ez66) ⟨tabOk,(fsCons2 Lz65 (fsCons2 Lz63 fsNil2)),fun _ _ _=>rfl,mixed,(inlCons (inlB_of Tryz.func11 rfl rfl (by kernel_rfl)) inlNil),rcsNil,owsNil⟩ Tryz.func17 rfl (by decide) (by kernel_rfl) (by kernel_rfl) (by kernel_rfl) (by kernel_rfl) (fun x r _ h=>⟨Tz66,6,big,(lz66 big x).trans h⟩)
def Tz101:LT:={ live:=[(4,[0,1,5])],keep:=[] }
noncomputable def Ez101:Env2:={ tab:=tab,fs:=[],inl:=[] }
noncomputable def ez101_0 (v:Y12×Y12×Int):St:={ s:=[(0,(.val ⟨(.slice Z7),v.1⟩)),(1,(.val ⟨(.slice Z7),v.2.1⟩)),(5,(.val ⟨Z2,v.2.2⟩))],l:=[],k:=[],b:=4096 }
def href04_SameFields_0 (self0:Y12×Y12×Int→Option (Bool)) (v:Y12×Y12×Int):Option (Bool):=
 (bif (decide (v.2.2 < (List.length v.1:Int))) then ((getI v.1 v.2.2).bind fun x1=>((getI v.2.1 v.2.2).bind fun x2=>(bif (!(eqD Z7 x1 x2)) then (some false) else (let x3:Int:=(IntKind.i64.wrap (v.2.2+(1:Int)));(self0 (v.1,v.2.1,x3)))))) else (some true))
def gref04_SameFields_0 (N:Nat) (self0:Y12×Y12×Int→Option (Bool)) (v:Y12×Y12×Int):Option (Bool):=href04_SameFields_0 self0 v
theorem kz101_0 (N:Nat) (s0:St→Option (Bool)) (v):(floc (Ez101) Tz101 6 N Tryz.f52 [.bool] [false] [] 0 nowhereR) s0 (ez101_0 v)=href04_SameFields_0 (fun v=>s0 (ez101_0 v)) v:=by kernel_rfl
theorem bz101_0 (N:Nat) (s0:St→Option (Bool)) (v):(floc (Ez101) Tz101 6 N Tryz.f52 [.bool] [false] [] 0 nowhereR) s0 (ez101_0 v)=gref04_SameFields_0 N (fun v=>s0 (ez101_0 v)) v:=kz101_0 N s0 v
def nref04_SameFields (loop0:Y12×Y12×Int→Option (Bool)) (x:Y12×Y12):Option (Bool):=
 (bif ((List.length x.1:Int) != (List.length x.2:Int)) then (some false) else (loop0 (x.1,x.2,(0:Int))))
def mref04_SameFields (N:Nat) (x:Y12×Y12):Option (Bool):=nref04_SameFields (iterV (gref04_SameFields_0 N) N) x
theorem jz101 (N:Nat) (x:Y12×Y12):rise (Ez101) Tz101 6 N Tryz.f52 [(.slice Z7),(.slice Z7)] [.bool] [false] x=nref04_SameFields (fun v=>iterR (floc (Ez101) Tz101 6 N Tryz.f52 [.bool] [false] [] 0 nowhereR) N (ez101_0 v)) x:=by kernel_rfl
theorem lz101 (N:Nat) (x:Y12×Y12):rise (Ez101) Tz101 6 N Tryz.f52 [(.slice Z7),(.slice Z7)] [.bool] [false] x=mref04_SameFields N x:=(jz101 N x).trans (by rw [funext (iterR_eq ez101_0 (bz101_0 N) N)];rfl)
def cref04_SameFields (x:Y12×Y12):Option (Bool):=mref04_SameFields big x
def Gz101:Fn2:=⟨[(.slice Z7),(.slice Z7)],[.bool],[false],fun x=>cref04_SameFields x⟩
theorem Lz101:Rises Tryz.prog 52 Gz101:=rises_of (E:=Ez101) ⟨tabOk,fsNil2,fun _ _ _=>rfl,mixed,inlNil,rcsNil,owsNil⟩ Tryz.func52 rfl (by decide) (by kernel_rfl) (by kernel_rfl) (by kernel_rfl) (by kernel_rfl) (fun x r _ h=>⟨Tz101,6,big,(lz101 big x).trans h⟩)
def Tz102:LT:={ live:=[(4,[0,1,5])],keep:=[] }
noncomputable def Ez102:Env2:={ tab:=tab,fs:=[(52,Gz101)],inl:=[] }
noncomputable def ez102_0 (v:Y8×Y8×Int):St:={ s:=[(0,(.val ⟨(.slice Z1),v.1⟩)),(1,(.val ⟨(.slice Z1),v.2.1⟩)),(5,(.val ⟨Z2,v.2.2⟩))],l:=[],k:=[],b:=4096 }
def href04_SameTable_0 (self0:Y8×Y8×Int→Option (Bool)) (v:Y8×Y8×Int):Option (Bool):=
 (bif (decide (v.2.2 < (List.length v.1:Int))) then ((getI v.1 v.2.2).bind fun x1=>((getI v.2.1 v.2.2).bind fun x2=>(bif (x1.1 != x2.1) then (some false) else ((getI v.1 v.2.2).bind fun x3=>((getI v.2.1 v.2.2).bind fun x4=>(bif (x3.2.1 != x4.2.1) then (some false) else ((getI v.1 v.2.2).bind fun x5=>((getI v.2.1 v.2.2).bind fun x6=>(bif (x5.2.2.1 != x6.2.2.1) then (some false) else ((getI v.1 v.2.2).bind fun x7=>((getI v.2.1 v.2.2).bind fun x8=>((cref04_SameFields (x7.2.2.2.1,x8.2.2.2.1)).bind fun x9=>(bif (!x9) then (some false) else (let x10:Int:=(IntKind.i64.wrap (v.2.2+(1:Int)));(self0 (v.1,v.2.1,x10)))))))))))))))) else (some true))
def gref04_SameTable_0 (N:Nat) (self0:Y8×Y8×Int→Option (Bool)) (v:Y8×Y8×Int):Option (Bool):=href04_SameTable_0 self0 v
theorem kz102_0 (N:Nat) (s0:St→Option (Bool)) (v):(floc (Ez102) Tz102 6 N Tryz.f30 [.bool] [false] [] 0 nowhereR) s0 (ez102_0 v)=href04_SameTable_0 (fun v=>s0 (ez102_0 v)) v:=by kernel_rfl
theorem bz102_0 (N:Nat) (s0:St→Option (Bool)) (v):(floc (Ez102) Tz102 6 N Tryz.f30 [.bool] [false] [] 0 nowhereR) s0 (ez102_0 v)=gref04_SameTable_0 N (fun v=>s0 (ez102_0 v)) v:=kz102_0 N s0 v
def nref04_SameTable (loop0:Y8×Y8×Int→Option (Bool)) (x:Y8×Y8):Option (Bool):=
 (bif ((List.length x.1:Int) != (List.length x.2:Int)) then (some false) else (loop0 (x.1,x.2,(0:Int))))
def mref04_SameTable (N:Nat) (x:Y8×Y8):Option (Bool):=nref04_SameTable (iterV (gref04_SameTable_0 N) N) x
theorem jz102 (N:Nat) (x:Y8×Y8):rise (Ez102) Tz102 6 N Tryz.f30 [(.slice Z1),(.slice Z1)] [.bool] [false] x=nref04_SameTable (fun v=>iterR (floc (Ez102) Tz102 6 N Tryz.f30 [.bool] [false] [] 0 nowhereR) N (ez102_0 v)) x:=by kernel_rfl
theorem lz102 (N:Nat) (x:Y8×Y8):rise (Ez102) Tz102 6 N Tryz.f30 [(.slice Z1),(.slice Z1)] [.bool] [false] x=mref04_SameTable N x:=(jz102 N x).trans (by rw [funext (iterR_eq ez102_0 (bz102_0 N) N)];rfl)
def cref04_SameTable (x:Y8×Y8):Option (Bool):=mref04_SameTable big x
def Gz102:Fn2:=⟨[(.slice Z1),(.slice Z1)],[.bool],[false],fun x=>cref04_SameTable x⟩
theorem Lz102:Rises Tryz.prog 30 Gz102:=rises_of (E:=Ez102) ⟨tabOk,(fsCons2 Lz101 fsNil2),fun _ _ _=>rfl,mixed,inlNil,rcsNil,owsNil⟩ Tryz.func30 rfl (by decide) (by kernel_rfl) (by kernel_rfl) (by kernel_rfl) (by kernel_rfl) (fun x r _ h=>⟨Tz102,6,big,(lz102 big x).trans h⟩)
def Tz103:LT:={ live:=[(4,[0,1,5])],keep:=[] }
noncomputable def Ez103:Env2:={ tab:=tab,fs:=[],inl:=[] }
noncomputable def ez103_0 (v:Y16×Y16×Int):St:={ s:=[(0,(.val ⟨(.slice Z5),v.1⟩)),(1,(.val ⟨(.slice Z5),v.2.1⟩)),(5,(.val ⟨Z2,v.2.2⟩))],l:=[],k:=[],b:=4096 }
def href07_Same_0 (self0:Y16×Y16×Int→Option (Bool)) (v:Y16×Y16×Int):Option (Bool):=
 (bif (decide (v.2.2 < (List.length v.1:Int))) then ((getI v.1 v.2.2).bind fun x1=>((getI v.2.1 v.2.2).bind fun x2=>(bif (!(eqD Z5 x1 x2)) then (some false) else (let x3:Int:=(IntKind.i64.wrap (v.2.2+(1:Int)));(self0 (v.1,v.2.1,x3)))))) else (some true))
def gref07_Same_0 (N:Nat) (self0:Y16×Y16×Int→Option (Bool)) (v:Y16×Y16×Int):Option (Bool):=href07_Same_0 self0 v
theorem kz103_0 (N:Nat) (s0:St→Option (Bool)) (v):(floc (Ez103) Tz103 6 N Tryz.f53 [.bool] [false] [] 0 nowhereR) s0 (ez103_0 v)=href07_Same_0 (fun v=>s0 (ez103_0 v)) v:=by kernel_rfl
theorem bz103_0 (N:Nat) (s0:St→Option (Bool)) (v):(floc (Ez103) Tz103 6 N Tryz.f53 [.bool] [false] [] 0 nowhereR) s0 (ez103_0 v)=gref07_Same_0 N (fun v=>s0 (ez103_0 v)) v:=kz103_0 N s0 v
def nref07_Same (loop0:Y16×Y16×Int→Option (Bool)) (x:Y16×Y16):Option (Bool):=
 (bif ((List.length x.1:Int) != (List.length x.2:Int)) then (some false) else (loop0 (x.1,x.2,(0:Int))))
def mref07_Same (N:Nat) (x:Y16×Y16):Option (Bool):=nref07_Same (iterV (gref07_Same_0 N) N) x
theorem jz103 (N:Nat) (x:Y16×Y16):rise (Ez103) Tz103 6 N Tryz.f53 [(.slice Z5),(.slice Z5)] [.bool] [false] x=nref07_Same (fun v=>iterR (floc (Ez103) Tz103 6 N Tryz.f53 [.bool] [false] [] 0 nowhereR) N (ez103_0 v)) x:=by kernel_rfl
theorem lz103 (N:Nat) (x:Y16×Y16):rise (Ez103) Tz103 6 N Tryz.f53 [(.slice Z5),(.slice Z5)] [.bool] [false] x=mref07_Same N x:=(jz103 N x).trans (by rw [funext (iterR_eq ez103_0 (bz103_0 N) N)];rfl)
def cref07_Same (x:Y16×Y16):Option (Bool):=mref07_Same big x
def Gz103:Fn2:=⟨[(.slice Z5),(.slice Z5)],[.bool],[false],fun x=>cref07_Same x⟩
theorem Lz103:Rises Tryz.prog 53 Gz103:=rises_of (E:=Ez103) ⟨tabOk,fsNil2,fun _ _ _=>rfl,mixed,inlNil,rcsNil,owsNil⟩ Tryz.func53 rfl (by decide) (by kernel_rfl) (by kernel_rfl) (by kernel_rfl) (by kernel_rfl) (fun x r _ h=>⟨Tz103,6,big,(lz103 big x).trans h⟩)
def Tz104:LT:={ live:=[(4,[0,1,5])],keep:=[] }
noncomputable def Ez104:Env2:={ tab:=tab,fs:=[],inl:=[] }
noncomputable def ez104_0 (v:Y10×Y10×Int):St:={ s:=[(0,(.val ⟨(.slice Z6),v.1⟩)),(1,(.val ⟨(.slice Z6),v.2.1⟩)),(5,(.val ⟨Z2,v.2.2⟩))],l:=[],k:=[],b:=4096 }
def href08_Same_0 (self0:Y10×Y10×Int→Option (Bool)) (v:Y10×Y10×Int):Option (Bool):=
 (bif (decide (v.2.2 < (List.length v.1:Int))) then ((getI v.1 v.2.2).bind fun x1=>((getI v.2.1 v.2.2).bind fun x2=>(bif (!(eqD Z6 x1 x2)) then (some false) else (let x3:Int:=(IntKind.i64.wrap (v.2.2+(1:Int)));(self0 (v.1,v.2.1,x3)))))) else (some true))
def gref08_Same_0 (N:Nat) (self0:Y10×Y10×Int→Option (Bool)) (v:Y10×Y10×Int):Option (Bool):=href08_Same_0 self0 v
theorem kz104_0 (N:Nat) (s0:St→Option (Bool)) (v):(floc (Ez104) Tz104 6 N Tryz.f54 [.bool] [false] [] 0 nowhereR) s0 (ez104_0 v)=href08_Same_0 (fun v=>s0 (ez104_0 v)) v:=by kernel_rfl
theorem bz104_0 (N:Nat) (s0:St→Option (Bool)) (v):(floc (Ez104) Tz104 6 N Tryz.f54 [.bool] [false] [] 0 nowhereR) s0 (ez104_0 v)=gref08_Same_0 N (fun v=>s0 (ez104_0 v)) v:=kz104_0 N s0 v
def nref08_Same (loop0:Y10×Y10×Int→Option (Bool)) (x:Y10×Y10):Option (Bool):=
 (bif ((List.length x.1:Int) != (List.length x.2:Int)) then (some false) else (loop0 (x.1,x.2,(0:Int))))
def mref08_Same (N:Nat) (x:Y10×Y10):Option (Bool):=nref08_Same (iterV (gref08_Same_0 N) N) x
theorem jz104 (N:Nat) (x:Y10×Y10):rise (Ez104) Tz104 6 N Tryz.f54 [(.slice Z6),(.slice Z6)] [.bool] [false] x=nref08_Same (fun v=>iterR (floc (Ez104) Tz104 6 N Tryz.f54 [.bool] [false] [] 0 nowhereR) N (ez104_0 v)) x:=by kernel_rfl
theorem lz104 (N:Nat) (x:Y10×Y10):rise (Ez104) Tz104 6 N Tryz.f54 [(.slice Z6),(.slice Z6)] [.bool] [false] x=mref08_Same N x:=(jz104 N x).trans (by rw [funext (iterR_eq ez104_0 (bz104_0 N) N)];rfl)
def cref08_Same (x:Y10×Y10):Option (Bool):=mref08_Same big x
def Gz104:Fn2:=⟨[(.slice Z6),(.slice Z6)],[.bool],[false],fun x=>cref08_Same x⟩
theorem Lz104:Rises Tryz.prog 54 Gz104:=rises_of (E:=Ez104) ⟨tabOk,fsNil2,fun _ _ _=>rfl,mixed,inlNil,rcsNil,owsNil⟩ Tryz.func54 rfl (by decide) (by kernel_rfl) (by kernel_rfl) (by kernel_rfl) (by kernel_rfl) (fun x r _ h=>⟨Tz104,6,big,(lz104 big x).trans h⟩)
def Tz105:LT:={ live:=[],keep:=[] }
noncomputable def Ez105:Env2:={ tab:=tab,fs:=[(52,Gz101),(53,Gz103),(54,Gz104)],inl:=[] }
def nref09_SameFunc (x:Y0×Y0):Option (Bool):=
 (bif (eqD .str x.1.1 x.2.1) then (bif (x.1.2.1==x.2.2.1) then (bif (x.1.2.2.1==x.2.2.2.1) then ((cref04_SameFields (x.1.2.2.2.1,x.2.2.2.2.1)).bind fun x1=>(bif x1 then ((cref07_Same (x.1.2.2.2.2.1,x.2.2.2.2.2.1)).bind fun x2=>(bif x2 then ((cref08_Same (x.1.2.2.2.2.2.1,x.2.2.2.2.2.2.1)).bind fun x3=>(bif x3 then ((cref08_Same (x.1.2.2.2.2.2.2.1,x.2.2.2.2.2.2.2.1)).bind fun x4=>(some x4)) else (some false))) else (some false))) else (some false))) else (some false)) else (some false)) else (some false))
def mref09_SameFunc (N:Nat) (x:Y0×Y0):Option (Bool):=nref09_SameFunc x
theorem jz105 (N:Nat) (x:Y0×Y0):rise (Ez105) Tz105 6 N Tryz.f31 [Z0,Z0] [.bool] [false] x=nref09_SameFunc x:=by kernel_rfl
theorem lz105 (N:Nat) (x:Y0×Y0):rise (Ez105) Tz105 6 N Tryz.f31 [Z0,Z0] [.bool] [false] x=mref09_SameFunc N x:=(jz105 N x).trans rfl
def cref09_SameFunc (x:Y0×Y0):Option (Bool):=mref09_SameFunc big x
def Gz105:Fn2:=⟨[Z0,Z0],[.bool],[false],fun x=>cref09_SameFunc x⟩
theorem Lz105:Rises Tryz.prog 31 Gz105:=rises_of (E:=Ez105) ⟨tabOk,(fsCons2 Lz101 (fsCons2 Lz103 (fsCons2 Lz104 fsNil2))),fun _ _ _=>rfl,mixed,inlNil,rcsNil,owsNil⟩ Tryz.func31 rfl (by decide) (by kernel_rfl) (by kernel_rfl) (by kernel_rfl) (by kernel_rfl) (fun x r _ h=>⟨Tz105,6,big,(lz105 big x).trans h⟩)
def Tz106:LT:={ live:=[(4,[2,3,5]),(9,[2,3,6])],keep:=[] }
noncomputable def Ez106:Env2:={ tab:=tab,fs:=[(30,Gz102),(31,Gz105)],inl:=[] }
noncomputable def ez106_1 (v:Int×Y3×Y3):St:={ s:=[(2,(.loc 0 [])),(3,(.loc 1 [])),(6,(.val ⟨Z2,v.1⟩))],l:=[(0,.var Z4 (.val ⟨Z4,v.2.1⟩)),(1,.var Z4 (.val ⟨Z4,v.2.2⟩))],k:=[],b:=4096 }
noncomputable def ez106_0 (v:Int×Y3×Y3):St:={ s:=[(2,(.loc 0 [])),(3,(.loc 1 [])),(5,(.val ⟨Z2,v.1⟩))],l:=[(0,.var Z4 (.val ⟨Z4,v.2.1⟩)),(1,.var Z4 (.val ⟨Z4,v.2.2⟩))],k:=[],b:=4096 }
def href09_Same_1 (self0:Int×Y3×Y3→Option (Bool)) (self1:Int×Y3×Y3→Option (Bool)) (v:Int×Y3×Y3):Option (Bool):=
 (bif (decide (v.1 < (List.length v.2.1.2.2.1:Int))) then ((getI v.2.1.2.2.1 v.1).bind fun x5=>((getI v.2.2.2.2.1 v.1).bind fun x6=>((cref09_SameFunc (x5,x6)).bind fun x7=>(bif (!x7) then (some false) else (let x8:Int:=(IntKind.i64.wrap (v.1+(1:Int)));(self1 (x8,v.2.1,v.2.2))))))) else (some true))
def gref09_Same_1 (N:Nat) (self0:Int×Y3×Y3→Option (Bool)) (self1:Int×Y3×Y3→Option (Bool)) (v:Int×Y3×Y3):Option (Bool):=href09_Same_1 self0 self1 v
theorem kz106_1 (N:Nat) (s0:St→Option (Bool)) (s1:St→Option (Bool)) (v):(floc (Ez106) Tz106 6 N Tryz.f14 [.bool] [false] [] 1 nowhereR) s1 (ez106_1 v)=href09_Same_1 (fun v=>s0 (ez106_0 v)) (fun v=>s1 (ez106_1 v)) v:=by kernel_rfl
theorem bz106_1 (N:Nat) (s0:St→Option (Bool)) (s1:St→Option (Bool)) (v):(floc (Ez106) Tz106 6 N Tryz.f14 [.bool] [false] [] 1 nowhereR) s1 (ez106_1 v)=gref09_Same_1 N (fun v=>s0 (ez106_0 v)) (fun v=>s1 (ez106_1 v)) v:=kz106_1 N s0 s1 v
def href09_Same_0 (loop1:Int×Y3×Y3→Option (Bool)) (self0:Int×Y3×Y3→Option (Bool)) (v:Int×Y3×Y3):Option (Bool):=
 (bif (decide (v.1 < (List.length v.2.1.2.1:Int))) then ((getI v.2.1.2.1 v.1).bind fun x2=>((getI v.2.2.2.1 v.1).bind fun x3=>(bif (!(eqD .str x2 x3)) then (some false) else (let x4:Int:=(IntKind.i64.wrap (v.1+(1:Int)));(self0 (x4,v.2.1,v.2.2)))))) else (loop1 ((0:Int),v.2.1,v.2.2)))
def gref09_Same_0 (N:Nat) (self0:Int×Y3×Y3→Option (Bool)) (v:Int×Y3×Y3):Option (Bool):=href09_Same_0 (iterV (gref09_Same_1 N self0) N) self0 v
theorem kz106_0 (N:Nat) (s0:St→Option (Bool)) (v):(floc (Ez106) Tz106 6 N Tryz.f14 [.bool] [false] [] 0 nowhereR) s0 (ez106_0 v)=href09_Same_0 (fun v=>iterR (floc (Ez106) Tz106 6 N Tryz.f14 [.bool] [false] [] 1 nowhereR) N (ez106_1 v)) (fun v=>s0 (ez106_0 v)) v:=by kernel_rfl
theorem bz106_0 (N:Nat) (s0:St→Option (Bool)) (v):(floc (Ez106) Tz106 6 N Tryz.f14 [.bool] [false] [] 0 nowhereR) s0 (ez106_0 v)=gref09_Same_0 N (fun v=>s0 (ez106_0 v)) v:=(kz106_0 N s0 v).trans (by rw [funext (iterR_eq ez106_1 (bz106_1 N s0) N)];rfl)
def nref09_Same (loop0:Int×Y3×Y3→Option (Bool)) (x:Y3×Y3):Option (Bool):=
 ((cref04_SameTable (x.1.1,x.2.1)).bind fun x1=>(bif (!x1) then (some false) else (bif ((List.length x.1.2.1:Int) != (List.length x.2.2.1:Int)) then (some false) else (bif ((List.length x.1.2.2.1:Int) != (List.length x.2.2.2.1:Int)) then (some false) else (loop0 ((0:Int),x.1,x.2))))))
def mref09_Same (N:Nat) (x:Y3×Y3):Option (Bool):=nref09_Same (iterV (gref09_Same_0 N) N) x
theorem jz106 (N:Nat) (x:Y3×Y3):rise (Ez106) Tz106 6 N Tryz.f14 [Z4,Z4] [.bool] [false] x=nref09_Same (fun v=>iterR (floc (Ez106) Tz106 6 N Tryz.f14 [.bool] [false] [] 0 nowhereR) N (ez106_0 v)) x:=by kernel_rfl
theorem lz106 (N:Nat) (x:Y3×Y3):rise (Ez106) Tz106 6 N Tryz.f14 [Z4,Z4] [.bool] [false] x=mref09_Same N x:=(jz106 N x).trans (by rw [funext (iterR_eq ez106_0 (bz106_0 N) N)];rfl)
def cref09_Same (x:Y3×Y3):Option (Bool):=mref09_Same big x
def Gz106:Fn2:=⟨[Z4,Z4],[.bool],[false],fun x=>cref09_Same x⟩
theorem Lz106:Rises Tryz.prog 14 Gz106:=rises_of (E:=Ez106) ⟨tabOk,(fsCons2 Lz102 (fsCons2 Lz105 fsNil2)),fun _ _ _=>rfl,mixed,inlNil,rcsNil,owsNil⟩ Tryz.func14 rfl (by decide) (by kernel_rfl) (by kernel_rfl) (by kernel_rfl) (by kernel_rfl) (fun x r _ h=>⟨Tz106,6,big,(lz106 big x).trans h⟩)
def Tlaw09_ImageOne:LT:={ live:=[],keep:=[] }
noncomputable def Elaw09_ImageOne:Env2:={ tab:=tab,fs:=[(13,Gz100),(14,Gz106),(15,Gz64),(17,Gz66),(18,Gz1),(20,Gz63)],inl:=[] }
def nlaw09_ImageOne (x:Y3×Y6):Option (Bool):=
 ((cref09_Great x.1).bind fun x1=>(bif x1 then ((claw09_alive ()).bind fun x2=>(some x2)) else (bif (decide ((List.length x.2:Int) > (2000:Int))) then ((claw09_alive ()).bind fun x3=>(some x3)) else ((cimage_Encode x.1).bind fun x4=>((cimage_Check x.1).bind fun x5=>(bif (x4.2 != x5) then (some false) else (bif (x4.2==(0:Int)) then ((cimage_Decode x4.1).bind fun x6=>(bif (x6.2 != (0:Int)) then (some false) else ((cref09_Same (x6.1,x.1)).bind fun x7=>(bif (!x7) then (some false) else (bif (decide ((List.length x4.1:Int) > (20000:Int))) then (some false) else ((cimage_Decode x.2).bind fun x8=>(bif (x8.2 != (0:Int)) then ((claw09_alive ()).bind fun x9=>(some x9)) else ((cimage_Encode x8.1).bind fun x10=>(bif (x10.2==(0:Int)) then (bif (eqD .str x10.1 x.2) then ((claw09_alive ()).bind fun x11=>(some x11)) else (some false)) else (some false)))))))))) else ((cimage_Decode x.2).bind fun x12=>(bif (x12.2 != (0:Int)) then ((claw09_alive ()).bind fun x13=>(some x13)) else ((cimage_Encode x12.1).bind fun x14=>(bif (x14.2==(0:Int)) then (bif (eqD .str x14.1 x.2) then ((claw09_alive ()).bind fun x15=>(some x15)) else (some false)) else (some false))))))))))))
def mlaw09_ImageOne (N:Nat) (x:Y3×Y6):Option (Bool):=nlaw09_ImageOne x
theorem jlaw09_ImageOne (N:Nat) (x:Y3×Y6):rise (Elaw09_ImageOne) Tlaw09_ImageOne 6 N Tryz.f6 [Z4,Z11] [.bool] [false] x=nlaw09_ImageOne x:=by kernel_rfl
theorem llaw09_ImageOne (N:Nat) (x:Y3×Y6):rise (Elaw09_ImageOne) Tlaw09_ImageOne 6 N Tryz.f6 [Z4,Z11] [.bool] [false] x=mlaw09_ImageOne N x:=(jlaw09_ImageOne N x).trans rfl
def claw09_ImageOne (x:Y3×Y6):Option (Bool):=mlaw09_ImageOne big x
def Glaw09_ImageOne:Fn2:=⟨[Z4,Z11],[.bool],[false],fun x=>claw09_ImageOne x⟩
theorem Llaw09_ImageOne:Rises Tryz.prog 6 Glaw09_ImageOne:=rises_of (E:=Elaw09_ImageOne) ⟨tabOk,(fsCons2 Lz100 (fsCons2 Lz106 (fsCons2 Lz64 (fsCons2 Lz66 (fsCons2 Lz1 (fsCons2 Lz63 fsNil2)))))),fun _ _ _=>rfl,mixed,inlNil,rcsNil,owsNil⟩ Tryz.func6 rfl (by decide) (by kernel_rfl) (by kernel_rfl) (by kernel_rfl) (by kernel_rfl) (fun x r _ h=>⟨Tlaw09_ImageOne,6,big,(llaw09_ImageOne big x).trans h⟩)
end Go.Proofs.YtlhnlcbcikbokaaGreatDoor
