"""Bytes looked through and summed; the calls are in byterows.rows."""
